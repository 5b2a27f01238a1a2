package alloc

import (
	"math"
	"slices"
	"testing"

	"waterline/api"
)

func made(t *testing.T, first, last int) *Pool {
	t.Helper()
	p, e := New(first, last)
	if p == nil || e != api.OK {
		t.Fatal(first, last, p, e)
	}
	return p
}

func takes(t *testing.T, p *Pool, many int, want ...int) {
	t.Helper()
	if l, e := p.Take(many); !slices.Equal(l, want) || e != api.OK {
		t.Errorf("Take of %d tells %v, %d, not %v", many, l, e, want)
	}
}

func takesNot(t *testing.T, p *Pool, many int, want api.Errno) {
	t.Helper()
	if l, e := p.Take(many); l != nil || e != want {
		t.Errorf("Take of %d tells %v, %d, not %d", many, l, e, want)
	}
}

func gives(t *testing.T, p *Pool, want api.Errno, lines ...int) {
	t.Helper()
	if e := p.Give(lines...); e != want {
		t.Errorf("Give of %v tells %d, not %d", lines, e, want)
	}
}

func claims(t *testing.T, p *Pool, want api.Errno, lines ...int) {
	t.Helper()
	if e := p.Claim(lines...); e != want {
		t.Errorf("Claim of %v tells %d, not %d", lines, e, want)
	}
}

func isCount(t *testing.T, p *Pool, line, want int) {
	t.Helper()
	if n, e := p.Count(line); n != want || e != api.OK {
		t.Errorf("Count of %d tells %d, %d, not %d", line, n, e, want)
	}
}

// isTaken asks which lines are taken, in all ways.
func isTaken(t *testing.T, p *Pool, first, last int, want ...int) {
	t.Helper()
	if l := slices.Collect(p.Lines()); !slices.Equal(l, want) {
		t.Errorf("Lines tells %v, not %v", l, want)
	}
	for n := first - 2; n <= last+2; n++ {
		if p.Taken(n) != slices.Contains(want, n) {
			t.Errorf("Taken tells %v of %d", p.Taken(n), n)
		}
	}
	if n := p.Free(); n != last-first+1-len(want) {
		t.Errorf("Free tells %d, where %v are taken", n, want)
	}
}

func isSame(t *testing.T, a, b *Pool, want bool) {
	t.Helper()
	if Same(a, b) != want || Same(b, a) != want {
		t.Error("the same:", !want)
	}
}

// farAway are numbers that no line has.
func farAway() []int {
	return []int{-1, -2, -1024, 1024, 1025, 1 << 30, 1 << 32, 1<<32 + 5, -1 << 32, math.MaxInt, math.MinInt, math.MinInt + 1}
}

func TestExamples(t *testing.T) {
	p := made(t, 4, 7)
	takes(t, p, 2, 4, 5)
	gives(t, p, api.OK, 4)
	takes(t, p, 3, 4, 6, 7)
	takesNot(t, p, 4, api.ErrFull)
	claims(t, p, api.ErrTaken, 4)
	gives(t, p, api.ErrRange, 9)
	gives(t, p, api.ErrNone, 5, 5)
	isCount(t, p, 4, 2)
	isTaken(t, p, 4, 7, 4, 5, 6, 7)
	takes(t, p, 0)
}

func TestNewAtBounds(t *testing.T) {
	for _, b := range [][2]int{{0, 0}, {0, 1}, {1, 1}, {0, 1023}, {1023, 1023}, {1022, 1023}, {4, 31}} {
		p := made(t, b[0], b[1])
		isTaken(t, p, b[0], b[1])
		for n := b[0]; n <= b[1]; n++ {
			isCount(t, p, n, 0)
		}
		isSame(t, p, made(t, b[0], b[1]), true)
	}
	for _, n := range append(farAway(), 5) {
		for _, b := range [][2]int{{n, n - 1}, {n, math.MinInt}, {math.MaxInt, n}, {n, -1}, {1024, n}, {n, 1024}, {-1, n}} {
			if p, e := New(b[0], b[1]); p != nil || e != api.ErrArg {
				t.Error(b, p, e)
			}
		}
	}
	for _, b := range [][2]int{{1, 0}, {1023, 0}, {1023, 1022}, {0, 1024}, {-1, 1023}, {-1, 0}, {1024, 1024}, {0, -1}, {-1, -1}} {
		if p, e := New(b[0], b[1]); p != nil || e != api.ErrArg {
			t.Error(b, p, e)
		}
	}
}

func TestNoPool(t *testing.T) {
	refused, _ := New(1, 0)
	for _, p := range []*Pool{nil, {}, refused} {
		for _, n := range append(farAway(), 0, 1, 1023) {
			takesNot(t, p, n, api.ErrNil)
			gives(t, p, api.ErrNil, n)
			gives(t, p, api.ErrNil, n, n)
			claims(t, p, api.ErrNil, n)
			claims(t, p, api.ErrNil, n, n)
			if p.Taken(n) {
				t.Error(n, "is taken")
			}
			if many, e := p.Count(n); many != 0 || e != api.ErrNil {
				t.Error(n, many, e)
			}
		}
		gives(t, p, api.ErrNil)
		claims(t, p, api.ErrNil)
		if n := p.Free(); n != 0 {
			t.Error(n, "are free")
		}
		lines := p.Lines()
		for range 2 {
			for n := range lines {
				t.Error(n, "is told")
			}
		}
		if c := p.Copy(); c != nil {
			t.Error(c)
		}
		for _, other := range []*Pool{nil, {}, refused} {
			isSame(t, p, other, true)
		}
		isSame(t, p, made(t, 0, 0), false)
	}
}

func TestTakeAtBounds(t *testing.T) {
	for _, b := range [][2]int{{0, 0}, {0, 1023}, {1023, 1023}, {7, 9}} {
		p, many := made(t, b[0], b[1]), b[1]-b[0]+1
		for _, n := range []int{many + 1, many + 2, 1025, 1 << 32, math.MaxInt} {
			takesNot(t, p, n, api.ErrFull)
		}
		takes(t, p, 0)
		isSame(t, p, made(t, b[0], b[1]), true)
		var all []int
		for n := b[0]; n <= b[1]; n++ {
			all = append(all, n)
		}
		takes(t, p, many, all...)
		isTaken(t, p, b[0], b[1], all...)
		takes(t, p, 0)
		takesNot(t, p, 1, api.ErrFull)
		for _, n := range []int{-1, -2, -1024, math.MinInt, math.MinInt + 1} {
			takesNot(t, p, n, api.ErrArg)
		}
		isTaken(t, p, b[0], b[1], all...)
	}
}

// TestTakeAmidGaps takes the least free lines where others between are taken.
func TestTakeAmidGaps(t *testing.T) {
	p := made(t, 10, 19)
	claims(t, p, api.OK, 18, 11, 13)
	isTaken(t, p, 10, 19, 11, 13, 18)
	takes(t, p, 3, 10, 12, 14)
	takesNot(t, p, 5, api.ErrFull)
	takesNot(t, p, -1, api.ErrArg)
	gives(t, p, api.OK, 13, 10)
	takes(t, p, 1, 10)
	takes(t, p, 5, 13, 15, 16, 17, 19)
	for n, want := range []int{2, 1, 1, 2, 1, 1, 1, 1, 1, 1} {
		isCount(t, p, 10+n, want)
	}
}

// TestRefusedChangesNothing asks for errors in their order, wherever in a list that is which may not be.
func TestRefusedChangesNothing(t *testing.T) {
	p := made(t, 4, 9)
	claims(t, p, api.OK, 4, 6, 7)
	gives(t, p, api.OK, 7)
	before := p.Copy()
	for _, n := range append(farAway(), 0, 3, 10, 4+1<<40) {
		if many, e := p.Count(n); many != 0 || e != api.ErrRange {
			t.Error(n, many, e)
		}
		for _, l := range [][]int{{n}, {n, n}, {n, 4}, {4, n}, {4, 6, n}, {5, n}, {n, 5}, {4, 4, n}, {5, 5, n}, {4, 5, n}} {
			gives(t, p, api.ErrRange, l...)
			claims(t, p, api.ErrRange, l...)
		}
	}
	for _, l := range [][]int{{5}, {4, 5}, {5, 4}, {7}, {4, 4}, {6, 4, 6}, {4, 6, 4}, {4, 6, 9}, {5, 5}} {
		gives(t, p, api.ErrNone, l...)
	}
	for _, l := range [][]int{{4}, {5, 4}, {4, 5}, {6, 6}, {5, 5}, {7, 5, 7}, {5, 7, 5}, {9, 8, 6}} {
		claims(t, p, api.ErrTaken, l...)
	}
	takesNot(t, p, 5, api.ErrFull)
	takesNot(t, p, -1, api.ErrArg)
	gives(t, p, api.OK)
	claims(t, p, api.OK)
	isSame(t, p, before, true)
	isTaken(t, p, 4, 9, 4, 6)
}

// TestCounts asks that a line's count grows each time that it is taken, in whichever way, and never else.
func TestCounts(t *testing.T) {
	p := made(t, 0, 1)
	for k := range 50 {
		takes(t, p, 1, 0)
		gives(t, p, api.OK, 0)
		isCount(t, p, 0, 2*k+1)
		claims(t, p, api.OK, 0)
		claims(t, p, api.ErrTaken, 0)
		claims(t, p, api.ErrTaken, 1, 0)
		isCount(t, p, 0, 2*k+2)
		gives(t, p, api.OK, 0)
		gives(t, p, api.ErrNone, 0)
		takesNot(t, p, 3, api.ErrFull)
		isCount(t, p, 0, 2*k+2)
		isCount(t, p, 1, 0)
	}
}

func TestListsOfAll(t *testing.T) {
	p := made(t, 0, 1023)
	all, _ := p.Take(1024)
	slices.Reverse(all)
	gives(t, p, api.OK, all...)
	isTaken(t, p, 0, 1023)
	claims(t, p, api.OK, all...)
	slices.Reverse(all)
	isTaken(t, p, 0, 1023, all...)
	gives(t, p, api.ErrNone, append(all, 512)...)
	gives(t, p, api.OK, all...)
	claims(t, p, api.ErrTaken, append(all, 512)...)
	isTaken(t, p, 0, 1023)
	for n := range 1024 {
		isCount(t, p, n, 2)
	}
}

func TestLines(t *testing.T) {
	p := made(t, 0, 9)
	empty := p.Lines()
	claims(t, p, api.OK, 8, 2, 5)
	held := p.Lines()
	gives(t, p, api.OK, 5)
	takes(t, p, 2, 0, 1)
	for range 2 {
		if l := slices.Collect(empty); len(l) != 0 {
			t.Error(l, "where none were taken")
		}
		if l := slices.Collect(held); !slices.Equal(l, []int{2, 5, 8}) {
			t.Error(l, "were taken when it was called")
		}
	}
	for left := range 3 {
		var l []int
		for n := range held {
			if l = append(l, n); len(l) > left {
				break
			}
		}
		if !slices.Equal(l, []int{2, 5, 8}[:left+1]) {
			t.Error(l, "ahead of leaving")
		}
	}
	for n := range p.Lines() { // what is done meanwhile is not seen
		gives(t, p, api.OK, n)
	}
	isTaken(t, p, 0, 9)
}

func TestCopyGoesOnApart(t *testing.T) {
	p := made(t, 4, 9)
	fresh := p.Copy()
	takes(t, p, 3, 4, 5, 6)
	isTaken(t, fresh, 4, 9)
	isSame(t, p, fresh, false)
	gives(t, p, api.OK, 5)
	c := p.Copy()
	isSame(t, p, c, true)
	takes(t, c, 2, 5, 7)
	isTaken(t, p, 4, 9, 4, 6)
	isCount(t, p, 5, 1)
	isCount(t, p, 7, 0)
	gives(t, p, api.OK, 4)
	isTaken(t, c, 4, 9, 4, 5, 6, 7)
	isSame(t, p, c, false)
}

func TestSame(t *testing.T) {
	a, b := made(t, 4, 9), made(t, 4, 9)
	isSame(t, a, a, true)
	for _, other := range []*Pool{made(t, 4, 8), made(t, 5, 9), made(t, 3, 9), made(t, 4, 10), nil, {}} {
		isSame(t, a, other, false)
	}
	takes(t, a, 2, 4, 5)
	isSame(t, a, b, false)
	claims(t, b, api.OK, 5)
	claims(t, b, api.OK, 4)
	isSame(t, a, b, true)
	gives(t, a, api.OK, 4)
	isSame(t, a, b, false) // the same counts
	takes(t, a, 1, 4)
	isSame(t, a, b, false) // the same lines
	gives(t, b, api.OK, 4)
	claims(t, b, api.OK, 4)
	isSame(t, a, b, true)
	gives(t, a, api.OK, 4, 5)
	gives(t, b, api.OK, 5, 4)
	isSame(t, a, b, true)
	claims(t, a, api.OK, 8)
	claims(t, b, api.OK, 9)
	isSame(t, a, b, false)
}

// TestWhatIsHandedStays asks that lists are neither changed, nor kept, nor shared.
func TestWhatIsHandedStays(t *testing.T) {
	p := made(t, 0, 9)
	room := []int{7, 3, 5, -8, -9}
	claims(t, p, api.OK, room[:3]...)
	if !slices.Equal(room, []int{7, 3, 5, -8, -9}) {
		t.Error("Claim changed", room)
	}
	gives(t, p, api.OK, room[:2]...)
	if !slices.Equal(room, []int{7, 3, 5, -8, -9}) {
		t.Error("Give changed", room)
	}
	room[0], room[1], room[2] = 0, 1, 2
	isTaken(t, p, 0, 9, 5)
	one, _ := p.Take(2)
	other, _ := p.Take(2)
	for _, l := range [][]int{one, other} {
		l = l[:cap(l)]
		for n := range l {
			l[n] = 99
		}
	}
	isTaken(t, p, 0, 9, 0, 1, 2, 3, 5)
	one = append(one[:0], 4, 4, 4)
	takes(t, p, 1, 4)
}
