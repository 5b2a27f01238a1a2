package trace

import (
	"cmp"
	"maps"
	"slices"

	"waterline/api"
)

// addresses is how many words there are.
const addresses = api.MaxLines * api.LineWords

// touch is a touch under way.
type touch struct{ api.Touch }

// mayBe tells whether there is such a touch.
func (t touch) mayBe() bool {
	switch t.Kind {
	case api.TouchLoad, api.TouchStore:
		return t.At >= 0 && t.At < addresses
	case api.TouchFlush:
		return t.At >= 0 && t.At < api.MaxLines && t.Word == 0
	case api.TouchFence:
		return t.At == 0 && t.Word == 0
	}
	return false
}

func (t touch) hasLine() bool { return t.Kind != api.TouchFence }

func (t touch) stores() bool { return t.Kind == api.TouchStore }

// line is asked of touches that have one alone.
func (t touch) line() int {
	if t.Kind == api.TouchFlush {
		return t.At
	}
	return t.At / api.LineWords
}

// rising tells the keys of a map, sorted.
func rising[K cmp.Ordered, V any](m map[K]V) []K { return slices.Sorted(maps.Keys(m)) }

// linesOf tells the lines of those touches that are such, rising, each once.
func linesOf(l []api.Touch, such func(touch) bool) []int {
	found := map[int]struct{}{}
	for _, x := range l {
		if t := (touch{x}); such(t) {
			found[t.line()] = struct{}{}
		}
	}
	return rising(found)
}

// unkept tells by a closure whether a line that a list stores to is still to be flushed, and fenced.
func unkept(l []api.Touch) func(line int) bool {
	never, fence := len(l), -1
	flushed := map[int]int{} // where the first flush of a line behind its last store stands
	for at, x := range l {
		switch t := (touch{x}); t.Kind {
		case api.TouchStore:
			flushed[t.line()] = never
		case api.TouchFlush:
			if flushed[t.line()] == never { // a later one would ask for a later fence
				flushed[t.line()] = at
			}
		case api.TouchFence:
			fence = at
		}
	}
	return func(line int) bool { return flushed[line] > fence }
}

// closing tells a flush of each line that a list stores to, rising, and a fence.
func closing(l []api.Touch) []api.Touch {
	var more []api.Touch
	for _, line := range linesOf(l, touch.stores) {
		more = append(more, api.Touch{Kind: api.TouchFlush, At: line})
	}
	return append(more, api.Touch{Kind: api.TouchFence})
}
