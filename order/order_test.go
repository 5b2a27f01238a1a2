package order

import (
	"math"
	"slices"
	"testing"

	"waterline/api"
	"waterline/tree"
)

// The calls of the document's example: one makes /f, the other one finds nothing there.
func made() api.Call {
	return api.Call{Op: api.Op{Kind: api.OpMake, Path: "/f"}, Begin: 1, Mark: 5, End: 9, Marked: true, Ended: true}
}

func missed() api.Call {
	return api.Call{Thread: 1, Op: api.Op{Kind: api.OpStat, Path: "/f"}, Res: api.Res{Errno: api.ErrNoEntry}, Begin: 2, Mark: 4, End: 8, Marked: true, Ended: true}
}

// at tells a call of a thread at three times, a time below 0 being none, nor any behind it.
func at(thread, begin, mark, end int) api.Call {
	return api.Call{Thread: thread, Begin: begin, Mark: mark, End: end, Marked: mark >= 0, Ended: mark >= 0 && end >= 0, Res: api.Res{Errno: api.ErrArg}}
}

// grown tells a tree in which files were made.
func grown(paths ...string) *tree.Tree {
	t := tree.New()
	for _, p := range paths {
		t.Make(p, api.InodeFile)
	}
	return t
}

// isRefused asks everything of what is no history.
func isRefused(t *testing.T, want api.Errno, l ...api.Call) {
	t.Helper()
	if e := Check(l...); e != want {
		t.Errorf("Check tells %d, not %d", e, want)
	}
	if m, e := Marked(l...); m != nil || e != want {
		t.Errorf("Marked tells %v, %d", m, e)
	}
	if n, is, e := Holds(tree.New(), l...); n != 0 || is || e != want {
		t.Errorf("Holds tells %d, %v, %d", n, is, e)
	}
	if x, e := After(tree.New(), l...); x != nil || e != want {
		t.Errorf("After tells %v, %d", x, e)
	}
	if n, is, e := Comes(tree.New(), tree.New(), l...); n != 0 || is || e != want {
		t.Errorf("Comes tells %d, %v, %d", n, is, e)
	}
	for n := range Under(5, l...) {
		t.Errorf("%d is under way", n)
	}
	for _, x := range []*tree.Tree{nil, {}} {
		if n, is, e := Holds(x, l...); n != 0 || is || e != api.ErrNil {
			t.Errorf("Holds from none tells %d, %v, %d", n, is, e)
		}
		if y, e := After(x, l...); y != nil || e != api.ErrNil {
			t.Errorf("After none tells %v, %d", y, e)
		}
		for _, pair := range [][2]*tree.Tree{{x, tree.New()}, {tree.New(), x}, {x, x}} {
			if n, is, e := Comes(pair[0], pair[1], l...); n != 0 || is || e != api.ErrNil {
				t.Errorf("Comes of none tells %d, %v, %d", n, is, e)
			}
		}
	}
}

func isHistory(t *testing.T, l ...api.Call) {
	t.Helper()
	if e := Check(l...); e != api.OK {
		t.Errorf("Check tells %d of a history", e)
	}
}

func isMarked(t *testing.T, want []int, l ...api.Call) {
	t.Helper()
	if m, e := Marked(l...); !slices.Equal(m, want) || e != api.OK {
		t.Errorf("Marked tells %v, %d, not %v", m, e, want)
	}
}

func holds(t *testing.T, from *tree.Tree, want int, l ...api.Call) {
	t.Helper()
	if n, is, e := Holds(from, l...); n != want || is != (want == -1) || e != api.OK {
		t.Errorf("Holds tells %d, %v, %d, not %d", n, is, e, want)
	}
}

func leads(t *testing.T, from, want *tree.Tree, l ...api.Call) {
	t.Helper()
	if x, e := After(from, l...); !tree.Same(x, want) || e != api.OK {
		t.Errorf("After tells another tree, %d", e)
	}
}

func comes(t *testing.T, from, to *tree.Tree, want int, may bool, l ...api.Call) {
	t.Helper()
	if n, is, e := Comes(from, to, l...); n != want || is != may || e != api.OK {
		t.Errorf("Comes tells %d, %v, %d, not %d, %v", n, is, e, want, may)
	}
}

func isUnder(t *testing.T, time int, want []int, l ...api.Call) {
	t.Helper()
	if got := slices.Collect(Under(time, l...)); !slices.Equal(got, want) {
		t.Errorf("at %d are under way %v, not %v", time, got, want)
	}
}

func TestExamples(t *testing.T) {
	a, b := made(), missed()
	isHistory(t, a, b)
	isMarked(t, []int{1, 0}, a, b)
	holds(t, tree.New(), -1, a, b)
	leads(t, tree.New(), grown("/f"), a, b)
	late := b
	late.Mark = 6
	isMarked(t, []int{0, 1}, a, late)
	holds(t, tree.New(), 1, a, late)
	open := a
	open.Marked, open.Ended = false, false
	isMarked(t, []int{1}, open, late)
	comes(t, tree.New(), grown("/f"), 0, true, open, late)
	comes(t, tree.New(), tree.New(), -1, true, open, late)
	comes(t, tree.New(), grown("/g"), -1, false, open, late)
	late.Mark = 5
	isRefused(t, api.ErrOrder, a, late)
}

func TestNoCalls(t *testing.T) {
	isHistory(t)
	isMarked(t, nil)
	holds(t, grown("/f"), -1)
	leads(t, grown("/f"), grown("/f"))
	comes(t, grown("/f"), grown("/f"), -1, true)
	comes(t, grown("/f"), grown("/g"), -1, false)
	isUnder(t, 0, nil)
	none := []api.Call{}
	isHistory(t, none...)
	isUnder(t, 0, nil, none...)
	isMarked(t, nil, at(0, 0, -1, -1))
	for _, x := range []*tree.Tree{nil, {}} {
		if _, _, e := Holds(x); e != api.ErrNil {
			t.Error(e)
		}
	}
}

// TestNotRight has one thing wrong in a call that is right, all numbers being at their bounds.
func TestNotRight(t *testing.T) {
	isHistory(t, at(7, 0, 0, 0), at(0, 1<<30, 1<<30, 1<<30), at(3, 1<<30, -1, -1), at(5, 1<<30-1, 1<<30-1, -1))
	for _, n := range []int{math.MinInt, -1, 8, 9, 1 << 32, math.MaxInt} {
		isRefused(t, api.ErrArg, at(n, 1, 2, 3))
	}
	for _, n := range []int{math.MinInt, -1<<31 - 1, -1, 1<<30 + 1, 1 << 32, math.MaxInt} {
		isRefused(t, api.ErrArg, api.Call{Begin: n})
		isRefused(t, api.ErrArg, api.Call{Begin: n, Mark: n, Marked: true})
		isRefused(t, api.ErrArg, api.Call{Begin: n, Mark: n, End: n, Marked: true, Ended: true})
		isRefused(t, api.ErrArg, api.Call{Mark: n, Marked: true})
		isRefused(t, api.ErrArg, api.Call{End: n, Marked: true, Ended: true})
		isRefused(t, api.ErrArg, api.Call{End: n, Mark: n, Marked: true, Ended: true})
		isHistory(t, api.Call{Mark: n, End: n})               // neither counts
		isHistory(t, api.Call{Begin: 3, Mark: n, End: n})     // neither counts
		isHistory(t, api.Call{Mark: 1, End: n, Marked: true}) // this End does not count
	}
	isRefused(t, api.ErrArg, api.Call{Begin: 1, Mark: 2, End: 3, Ended: true})
	isRefused(t, api.ErrArg, at(0, 3, 2, 4))
	isRefused(t, api.ErrArg, at(0, 3, 2, -1))
	isRefused(t, api.ErrArg, at(0, 3, 5, 4))
	isRefused(t, api.ErrArg, at(0, 3, 3, 2))
	isRefused(t, api.ErrArg, at(0, 1, 1, 1), at(1, 2, 2, 2), at(2, 3, 3, 2))
	isHistory(t, at(0, 3, 3, 3))
	isHistory(t, at(0, 3, 4, 1<<30))
}

// TestAnyOperation has what is no operation that the model would do: a call may have it, and the error as its result.
func TestAnyOperation(t *testing.T) {
	for _, x := range []struct {
		op    api.Op
		wrong api.Errno
	}{
		{api.Op{}, api.ErrArg}, {api.Op{Kind: -1, Path: "/"}, api.ErrArg}, {api.Op{Kind: 12, Path: "/"}, api.ErrArg}, {api.Op{Kind: api.OpMake, Path: "f"}, api.ErrPath}, {api.Op{Kind: api.OpMake, Path: "/.."}, api.ErrName},
		{api.Op{Kind: api.OpRead, Path: "/", At: -1}, api.ErrArg}, {api.Op{Kind: api.OpCut, Path: "/", N: 449}, api.ErrBig}, {api.Op{Kind: api.OpWrite, Path: "/", Bytes: make([]byte, 5000)}, api.ErrBig},
	} {
		c := api.Call{Op: x.op, Marked: true, Ended: true}
		isHistory(t, c)
		isMarked(t, []int{0}, c)
		holds(t, tree.New(), 0, c)
		leads(t, tree.New(), tree.New(), c)
		c.Res.Errno = x.wrong
		holds(t, tree.New(), -1, c)
		c.Marked, c.Ended = false, false
		comes(t, tree.New(), tree.New(), -1, true, c)
		comes(t, tree.New(), grown("/f"), -1, false, c)
	}
}

func TestManyCalls(t *testing.T) {
	l := make([]api.Call, 2001)
	for n := range l {
		l[n] = at(n%8, 10*n, 10*n+1, 10*n+2)
	}
	isHistory(t, l[:2000]...)
	isRefused(t, api.ErrLong, l...)
	holds(t, tree.New(), -1, l[:2000]...)
	isUnder(t, 19990, []int{1999}, l[:2000]...)
	same := slices.Clone(l)
	same[5].Mark, same[5].End = same[6].Mark, same[6].End
	isRefused(t, api.ErrOrder, same[:2000]...)
	isRefused(t, api.ErrLong, same...)
	same[2000].Thread = 8
	isRefused(t, api.ErrArg, same...)
	isRefused(t, api.ErrOrder, same[:2000]...)
	same[2000], same[0].Thread = l[2000], -1
	isRefused(t, api.ErrArg, same...)
	isRefused(t, api.ErrArg, same[:2000]...)
}

func TestMarksOfTheirOwn(t *testing.T) {
	isRefused(t, api.ErrOrder, at(0, 1, 5, 9), at(1, 2, 5, 6))
	isRefused(t, api.ErrOrder, at(0, 1, 5, -1), at(1, 2, 5, 6))
	isRefused(t, api.ErrOrder, at(0, 1, 5, -1), at(1, 2, 5, -1))
	isRefused(t, api.ErrOrder, at(0, 0, 0, 9), at(1, 3, 4, 6), at(2, 0, 0, 2))
	isRefused(t, api.ErrOrder, at(0, 1<<30, 1<<30, 1<<30), at(1, 0, 1<<30, -1))
	open := at(0, 1, -1, -1)
	open.Mark = 5
	isHistory(t, open, at(1, 2, 5, 6)) // its Mark does not count
	isMarked(t, []int{1}, open, at(1, 2, 5, 6))
	isHistory(t, at(0, 1, 5, 9), at(1, 5, 6, 9), at(2, 1, 4, 5)) // only Marks must not be the same
	isMarked(t, []int{2, 0, 1}, at(0, 1, 5, 9), at(1, 5, 6, 9), at(2, 1, 4, 5))
}

func TestOneByOne(t *testing.T) {
	isHistory(t, at(0, 1, 2, 3), at(0, 4, 5, 6))
	isHistory(t, at(0, 4, 5, 6), at(0, 1, 2, 3))
	isHistory(t, at(0, 4, 5, -1), at(0, 1, 2, 3))
	isHistory(t, at(0, 4, -1, -1), at(0, 1, 2, 3), at(1, 1, -1, -1))
	isHistory(t, at(0, 7, 7, 7), at(0, 6, 6, 6), at(0, 8, 8, 8))
	isRefused(t, api.ErrOrder, at(0, 1, 2, 4), at(0, 4, 5, 6)) // not behind its End
	isRefused(t, api.ErrOrder, at(0, 4, 5, 6), at(0, 1, 2, 4))
	isRefused(t, api.ErrOrder, at(0, 1, 2, -1), at(0, 4, 5, 6))
	isRefused(t, api.ErrOrder, at(0, 1, -1, -1), at(0, 4, 5, 6))
	isRefused(t, api.ErrOrder, at(0, 1, -1, -1), at(0, 4, -1, -1))
	isRefused(t, api.ErrOrder, at(0, 1, 2, 9), at(0, 4, 5, 6))
	isRefused(t, api.ErrOrder, at(0, 1, -1, -1), at(0, 1, 2, 3))
	isRefused(t, api.ErrOrder, at(0, 1, 2, 3), at(0, 1, -1, -1))
	isRefused(t, api.ErrOrder, at(0, 1, 1, 1), at(0, 1, 2, 3))
	isRefused(t, api.ErrOrder, at(0, 1, 2, 3), at(7, 10, 11, 12), at(0, 5, 6, 7), at(7, 1, 3, 9), at(7, 8, 13, 14))
	hidden := at(0, 1, 2, -1)
	hidden.End = 3 // it does not count
	isRefused(t, api.ErrOrder, hidden, at(0, 4, 5, 6))
	isRefused(t, api.ErrOrder, at(3, 4, -1, -1), at(0, 1, 2, 3), at(3, 5, -1, -1))
}

func TestHolds(t *testing.T) {
	op := func(thread, mark int, x api.Op, r api.Res) api.Call {
		return api.Call{Thread: thread, Op: x, Res: r, Begin: mark, Mark: mark, End: mark, Marked: true, Ended: true}
	}
	write := api.Op{Kind: api.OpWrite, Path: "/f", At: 1, Bytes: []byte("hi")}
	read := api.Op{Kind: api.OpRead, Path: "/f", N: 9}
	list := api.Op{Kind: api.OpList, Path: "/"}
	stat := api.Op{Kind: api.OpStat, Path: "/f"}
	l := []api.Call{
		op(0, 40, read, api.Res{Bytes: []byte("\x00hi")}),
		op(1, 20, write, api.Res{}),
		op(2, 30, list, api.Res{Names: []string{"f"}}),
		op(4, 10, read, api.Res{}),
		op(3, 50, stat, api.Res{Kind: api.InodeFile, Links: 1, N: 3}),
	}
	from := grown("/f")
	holds(t, from, -1, l...)
	for at, wrong := range []api.Res{{Bytes: []byte("\x00ha")}, {Errno: api.ErrNoEntry}, {Names: []string{"f", "g"}}, {Bytes: []byte{0}}, {Kind: api.InodeFile, Links: 2, N: 3}} {
		other := slices.Clone(l)
		other[at].Res = wrong
		holds(t, from, at, other...)
		other[at].Ended = false // so it has no result
		holds(t, from, -1, other...)
	}
	holds(t, tree.New(), 3, l...) // the first one by its Mark
	l[3].Res.Errno = api.ErrNoEntry
	holds(t, tree.New(), 1, l...)
	holds(t, from, 3, l...)
	if b, e := from.Bytes("/f"); len(b) > 0 || e != api.OK {
		t.Error("the tree is changed:", b, e)
	}
	l[1].Ended = false
	l[1].Op.Kind = api.OpMake // it counts, though it is not ended
	holds(t, tree.New(), 0, l...)
}

func TestAfter(t *testing.T) {
	from := grown("/g")
	a, b := made(), missed()
	x, e := After(from, a, b)
	if e != api.OK || !tree.Same(x, grown("/f", "/g")) || !tree.Same(from, grown("/g")) {
		t.Error(e)
	}
	x.Make("/x", api.InodeFile)
	y, _ := After(from, a, b)
	if !tree.Same(y, grown("/f", "/g")) || !tree.Same(from, grown("/g")) {
		t.Error("an answer is no new tree")
	}
	z, _ := After(from)
	z.Drop("/g")
	if !tree.Same(from, grown("/g")) {
		t.Error("the tree itself is told")
	}
	a.Ended = false
	leads(t, from, grown("/f", "/g"), a, b)
	a.Marked = false
	leads(t, from, grown("/g"), a, b)
	b.Res.Errno = api.ErrArg // it does not hold
	leads(t, from, grown("/g"), a, b)
}

func TestComes(t *testing.T) {
	open := func(thread int, kind api.OpKind, path string) api.Call {
		return api.Call{Thread: thread, Begin: 9, Op: api.Op{Kind: kind, Path: path}}
	}
	from := grown("/z")
	l := []api.Call{open(0, api.OpStat, "/f"), open(1, api.OpMake, "/g"), open(2, api.OpMake, "/f"), open(3, api.OpMake, "/f"), open(4, api.OpUnlink, "/z"), open(5, api.OpUnlink, "/f"), made()}
	l[6].Thread, l[6].Op.Path = 6, "/y"
	comes(t, from, grown("/y", "/z"), -1, true, l...)
	comes(t, from, grown("/f", "/y", "/z"), 2, true, l...)
	comes(t, from, grown("/g", "/y", "/z"), 1, true, l...)
	comes(t, from, grown("/y"), 4, true, l...)
	comes(t, from, grown("/f", "/g", "/y", "/z"), -1, false, l...) // one alone
	comes(t, from, grown("/z"), -1, false, l...)                   // what is marked counts
	comes(t, from, grown("/f", "/z"), -1, false, l...)
	l[6].Res.Errno = api.ErrIsDir // results are not looked at
	comes(t, from, grown("/f", "/y", "/z"), 2, true, l...)
	l[6].Marked, l[6].Ended = false, false
	comes(t, from, grown("/y", "/z"), 6, true, l...)
	comes(t, from, grown("/z"), -1, true, l...) // not 0, nor 5, which change nothing
	marked := slices.Clone(l)
	marked[2].Marked, marked[2].Mark = true, 9
	comes(t, from, grown("/f", "/z"), -1, true, marked...)
	comes(t, from, grown("/z"), 5, true, marked...) // it comes behind what is marked
	if !tree.Same(from, grown("/z")) {
		t.Error("a tree is changed")
	}
}

func TestUnder(t *testing.T) {
	l := []api.Call{at(0, 3, 4, 5), at(1, 0, 7, -1), at(2, 5, -1, -1), at(0, 6, 6, 6), at(3, 1<<30, -1, -1)}
	l[2].End = 5 // it does not count
	for time, want := range map[int][]int{
		math.MinInt: nil, -1: nil, 0: {1}, 2: {1}, 3: {0, 1}, 4: {0, 1}, 5: {0, 1, 2}, 6: {1, 2, 3}, 7: {1, 2}, 1<<30 - 1: {1, 2}, 1 << 30: {1, 2, 4}, math.MaxInt: {1, 2, 4},
	} {
		isUnder(t, time, want, l...)
	}
	isUnder(t, 5, []int{0, 1, 2}, l[:3]...)
	none := append(slices.Clone(l), at(0, 6, 9, 9))
	isUnder(t, 4, nil, none...)
	isUnder(t, 4, nil, append(none, at(9, 1, 1, 1))...)
}

func TestUnderIsLeft(t *testing.T) {
	l := []api.Call{at(0, 1, 2, 3), at(1, 1, -1, -1), at(2, 1, 3, 4)}
	under := Under(2, l...)
	for many := range 4 {
		var got []int
		for n := range under {
			if len(got) == many {
				break
			}
			got = append(got, n)
		}
		if want := []int{0, 1, 2}[:many]; !slices.Equal(got, want) {
			t.Error(got, want)
		}
	}
	pairs := 0
	for range under {
		for range under {
			pairs++
		}
	}
	if pairs != 9 {
		t.Error(pairs)
	}
	l[0], l[1] = at(0, 7, 8, 9), at(9, 0, 0, 0)
	if got := slices.Collect(under); !slices.Equal(got, []int{0, 1, 2}) {
		t.Error("the list is kept:", got)
	}
}

func TestNothingIsChanged(t *testing.T) {
	l := make([]api.Call, 2, 5)
	l[0], l[1] = missed(), made()
	l[1].Op.Bytes = append(make([]byte, 0, 9), "abc"...)
	room := l[:5]
	room[2] = at(3, 3, 3, 3)
	keep := func() []api.Call {
		other := slices.Clone(room)
		other[1].Op.Bytes = slices.Clone(room[1].Op.Bytes[:9])
		return other
	}
	before := keep()
	m, _ := Marked(l...)
	Check(l...)
	Holds(tree.New(), l...)
	After(tree.New(), l...)
	Comes(tree.New(), tree.New(), l...)
	for range Under(3, l...) {
	}
	for n, c := range keep() {
		b := before[n]
		if c.Thread != b.Thread || c.Begin != b.Begin || c.Mark != b.Mark || c.Op.Path != b.Op.Path || c.Op.Kind != b.Op.Kind || !slices.Equal(c.Op.Bytes, b.Op.Bytes) || c.Res.Errno != b.Res.Errno {
			t.Error("call", n, "is changed")
		}
	}
	m[0] = 99
	isMarked(t, []int{0, 1}, l...)
}
