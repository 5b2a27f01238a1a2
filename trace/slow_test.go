package trace

import (
	"slices"

	"waterline/api"
)

func load(at int, w uint64) api.Touch {
	return api.Touch{Kind: api.TouchLoad, At: at, Word: w}
}

func store(at int, w uint64) api.Touch {
	return api.Touch{Kind: api.TouchStore, At: at, Word: w}
}

func flush(line int) api.Touch { return api.Touch{Kind: api.TouchFlush, At: line} }

func fence() api.Touch { return api.Touch{Kind: api.TouchFence} }

// both is a new list: the second one behind the first.
func both(a, b []api.Touch) []api.Touch { return append(slices.Clone(a), b...) }

// loads is a list of so many loads.
func loads(n int) []api.Touch { return slices.Repeat([]api.Touch{load(0, 0)}, n) }

// slowStores asks of each address, from 0 on, which store of it is the last one.
func slowStores(l []api.Touch) []stored {
	var told []stored
	for at := range 8192 {
		for _, x := range slices.Backward(l) {
			if x.Kind == api.TouchStore && x.At == at {
				told = append(told, stored{at, x.Word})
				break
			}
		}
	}
	return told
}

// slowStored asks of each line, from 0 on, where the last store to it stands.
func slowStored(l []api.Touch, line int) int {
	last := -1
	for i, x := range l {
		if x.Kind == api.TouchStore && x.At >= 8*line && x.At <= 8*line+7 {
			last = i
		}
	}
	return last
}

// slowKept tries each flush behind a place, and each fence behind that.
func slowKept(l []api.Touch, line, last int) bool {
	for i := last + 1; i < len(l); i++ {
		for k := i + 1; k < len(l); k++ {
			if l[i] == flush(line) && l[k] == fence() {
				return true
			}
		}
	}
	return false
}

// slowOrderly and slowClosed are told of lists whose lines are below some bound.
func slowOrderly(l []api.Touch, lines int) bool {
	for line := range lines {
		if last := slowStored(l, line); last >= 0 && !slowKept(l, line, last) {
			return false
		}
	}
	return true
}

func slowClosed(l []api.Touch, lines int) []api.Touch {
	if slowOrderly(l, lines) {
		return l
	}
	closed := slices.Clone(l)
	for line := range lines {
		if slowStored(l, line) >= 0 {
			closed = append(closed, flush(line))
		}
	}
	return append(closed, fence())
}

// lists tells all lists of so many touches out of some.
func lists(touches []api.Touch, length int) [][]api.Touch {
	all := [][]api.Touch{nil}
	for range length {
		var longer [][]api.Touch
		for _, l := range all {
			for _, x := range touches {
				longer = append(longer, both(l, []api.Touch{x}))
			}
		}
		all = longer
	}
	return all
}
