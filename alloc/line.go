package alloc

import (
	"iter"
	"slices"

	"waterline/api"
)

// line is whether a line is taken, and how often it was.
type line struct {
	taken bool
	count int
}

func (l line) isTaken() bool { return l.taken }

func (l line) isFree() bool { return !l.taken }

// again tells the line when it is taken once more.
func (l line) again() line { return line{true, l.count + 1} }

// given tells the line when it is free again.
func (l line) given() line { return line{false, l.count} }

// bounds are a pool's first line, and its last.
type bounds [2]int

func (b bounds) mayBe() bool {
	return slices.IsSorted([]int{0, b[0], b[1], api.MaxLines - 1})
}

func (b bounds) has(n int) bool { return b[0] <= n && n <= b[1] }

// all goes over the lines, rising.
func (b bounds) all(yield func(int) bool) {
	for n := b[0]; b.has(n) && yield(n); n++ {
	}
}

// none goes over no lines.
func none(func(int) bool) {}

// such goes over those that are such.
func such[T any](are func(T) bool, l iter.Seq[T]) iter.Seq[T] {
	return func(yield func(T) bool) {
	things:
		for x := range l {
			if are(x) && !yield(x) {
				break things
			}
		}
	}
}

// every tells whether all of a list are such.
func every[T any](are func(T) bool, l ...T) bool {
	for _, x := range l {
		if !are(x) {
			return false
		}
	}
	return true
}

func comeTwice(lines ...int) bool {
	apart := slices.Compact(slices.Sorted(slices.Values(lines)))
	return len(apart) < len(lines)
}
