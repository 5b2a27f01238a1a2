package order

import (
	"cmp"
	"iter"
	"slices"

	"waterline/api"
	"waterline/tree"
)

const (
	mostCalls = 2000
	lastTime  = 1 << 30
	none      = -1 // the place of no call
)

// underWay is a call, and its place in the list.
type underWay struct {
	api.Call
	place int
}

// isRight looks at no Mark that does not count, and at no such End.
func (c underWay) isRight() bool {
	if c.Thread < 0 || c.Thread >= api.MaxThreads || c.Ended && !c.Marked {
		return false
	}
	times := []int{0, c.Begin}
	if c.Marked {
		times = append(times, c.Mark)
	}
	if c.Ended {
		times = append(times, c.End)
	}
	return slices.IsSorted(append(times, lastTime))
}

func (c underWay) mark() int { return c.Mark }

func (c underWay) begin() int { return c.Begin }

func (c underWay) isDuring(at int) bool { return c.Begin <= at && !c.isEndedAhead(at) }

func (c underWay) isEndedAhead(at int) bool { return c.Ended && c.End < at }

// history is calls of which all that a history needs is so.
type history []underWay

// historyOf tells a list's calls as a history, or why they are none.
func historyOf(l ...api.Call) (history, api.Errno) {
	h := listed(l...)
	wrong := api.ErrArg
	if !every(underWay.isRight, h...) {
		goto refused
	}
	wrong = api.ErrLong
	if len(h) > mostCalls {
		goto refused
	}
	wrong = api.ErrOrder
	if !h.haveOwnMarks() || !h.areOneByOne() {
		goto refused
	}
	return h, api.OK
refused:
	return nil, wrong
}

// historyFrom asks for the tree ahead of the calls.
func historyFrom(from *tree.Tree, l ...api.Call) (history, api.Errno) {
	if !isThere(from) {
		return nil, api.ErrNil
	}
	return historyOf(l...)
}

// isThere asks what is like no tree: a nil one, and a zero one.
func isThere(t *tree.Tree) bool { return !tree.Same(t, nil) }

func listed(l ...api.Call) history {
	h := make(history, len(l))
	for place, c := range l {
		h[place] = underWay{c, place}
	}
	return h
}

// marked tells the calls that are marked, by their Marks.
func (h history) marked() history {
	var some history
	for _, c := range h {
		if c.Marked {
			some = append(some, c)
		}
	}
	return rising(underWay.mark, some...)
}

func (h history) places() []int {
	var l []int
	for _, c := range h {
		l = append(l, c.place)
	}
	return l
}

// byThreads tells each thread's calls, as the list has them.
func (h history) byThreads() map[int][]underWay {
	of := map[int][]underWay{}
	for _, c := range h {
		of[c.Thread] = append(of[c.Thread], c)
	}
	return of
}

func (h history) haveOwnMarks() bool {
	return follow(func(a, b underWay) bool { return a.Mark < b.Mark }, h.marked()...)
}

func (h history) areOneByOne() bool {
	for _, l := range h.byThreads() {
		if !follow(func(a, b underWay) bool { return a.isEndedAhead(b.Begin) }, rising(underWay.begin, l...)...) {
			return false
		}
	}
	return true
}

// timesAlone tells the calls without what they share with the list.
func (h history) timesAlone() history {
	bare := slices.Clone(h)
	for n := range bare {
		bare[n].Op, bare[n].Res = api.Op{}, api.Res{}
	}
	return bare
}

// during goes over the places of the calls that are under way at a time.
func (h history) during(at int) iter.Seq[int] {
	return func(yield func(int) bool) {
	calls:
		for c := range slices.Values(h) {
			if c.isDuring(at) && !yield(c.place) {
				break calls
			}
		}
	}
}

// every tells whether all of a list are such.
func every[T any](is func(T) bool, l ...T) bool {
	for _, x := range l {
		if !is(x) {
			return false
		}
	}
	return true
}

// follow tells whether any two neighbours of a list are such.
func follow[T any](fine func(a, b T) bool, l ...T) bool {
	for at := 1; at < len(l); at++ {
		if !fine(l[at-1], l[at]) {
			return false
		}
	}
	return true
}

// rising tells a list by what is asked of each.
func rising[T any, K cmp.Ordered](ask func(T) K, l ...T) []T {
	return slices.SortedFunc(slices.Values(l), func(a, b T) int { return cmp.Compare(ask(a), ask(b)) })
}
