package trace

import (
	"iter"
	"math"
	"slices"
	"testing"

	"waterline/api"
)

// stored is what Stores tells in one go.
type stored struct {
	at int
	w  uint64
}

func gathered(over iter.Seq2[int, uint64]) []stored {
	var l []stored
	for at, w := range over {
		l = append(l, stored{at, w})
	}
	return l
}

// unright are touches that may not be.
func unright() []api.Touch {
	l := []api.Touch{
		{}, {At: 1}, {Word: 1}, {Kind: 5}, {Kind: -1}, {Kind: math.MaxInt}, {Kind: math.MinInt},
		load(8192, 0), load(-1, 0), store(8192, 0), store(-1, 7),
		flush(1024), flush(-1), flush(8191), {Kind: api.TouchFlush, Word: 1}, {Kind: api.TouchFlush, At: 1023, Word: math.MaxUint64},
		{Kind: api.TouchFence, At: 1}, {Kind: api.TouchFence, At: -1}, {Kind: api.TouchFence, Word: 1}, {Kind: api.TouchFence, At: 8, Word: 8},
	}
	for _, n := range []int{math.MinInt, math.MinInt + 1, -8192, -8, 8193, 1 << 32, 1 << 61, math.MaxInt} {
		l = append(l, load(n, 0), store(n, 0), flush(n), api.Touch{Kind: api.TouchFence, At: n})
	}
	return l
}

func TestExamples(t *testing.T) {
	if l, e := Lines(store(9, 1), flush(0), load(17, 0)); !slices.Equal(l, []int{0, 1, 2}) || e != api.OK {
		t.Error(l, e)
	}
	if !Orderly(store(9, 1), flush(1), fence()) || Orderly(store(9, 1), fence(), flush(1)) {
		t.Error("orderly")
	}
	if l, e := Closed(store(9, 1)); !slices.Equal(l, []api.Touch{store(9, 1), flush(1), fence()}) || e != api.OK {
		t.Error(l, e)
	}
	if l := gathered(Stores(store(9, 1), store(8, 2), store(9, 3))); !slices.Equal(l, []stored{{8, 2}, {9, 3}}) {
		t.Error(l)
	}
	for _, x := range []api.Touch{flush(1024), {Kind: api.TouchFence, At: 1}} {
		if e := Check(x); e != api.ErrArg {
			t.Error(x, e)
		}
	}
}

// isRefused asks that all calls refuse a list.
func isRefused(t *testing.T, want api.Errno, l []api.Touch) {
	t.Helper()
	if e := Check(l...); e != want {
		t.Error(e)
	}
	if lines, e := Lines(l...); len(lines) != 0 || e != want {
		t.Error(lines, e)
	}
	if closed, e := Closed(l...); len(closed) != 0 || e != want {
		t.Error(len(closed), e)
	}
	if Orderly(l...) {
		t.Error("orderly")
	}
	if told := gathered(Stores(l...)); len(told) != 0 {
		t.Error(told)
	}
}

func TestTouchesThatMayBe(t *testing.T) {
	for _, w := range []uint64{0, 1, 1 << 63, math.MaxUint64} {
		for _, at := range []int{0, 1, 7, 8, 1023, 1024, 8190, 8191} {
			if e := Check(load(at, w), store(at, w)); e != api.OK {
				t.Error(at, w, e)
			}
		}
	}
	for _, line := range []int{0, 1, 7, 8, 1022, 1023} {
		if e := Check(flush(line), fence()); e != api.OK {
			t.Error(line, e)
		}
	}
	if Check() != api.OK || Check([]api.Touch{}...) != api.OK {
		t.Error("no touches")
	}
}

func TestTouchesThatMayNotBe(t *testing.T) {
	right := []api.Touch{store(9, 1), flush(1), fence()}
	for _, x := range unright() {
		one := []api.Touch{x}
		for _, l := range [][]api.Touch{one, both(right, one), both(one, right), both(right, both(one, right))} {
			isRefused(t, api.ErrArg, l)
		}
		for _, n := range []int{4095, 4096, 5000} { // what may not be is told ahead of too many
			isRefused(t, api.ErrArg, both(loads(n), one))
			isRefused(t, api.ErrArg, both(one, loads(n)))
		}
	}
}

func TestTooMany(t *testing.T) {
	orderly := both(loads(4093), []api.Touch{store(8191, 1), flush(1023), fence()})
	if e := Check(orderly...); e != api.OK {
		t.Error(e)
	}
	if l, e := Lines(orderly...); !slices.Equal(l, []int{0, 1023}) || e != api.OK {
		t.Error(l, e)
	}
	if l, e := Closed(orderly...); !slices.Equal(l, orderly) || e != api.OK {
		t.Error(len(l), e)
	}
	if !Orderly(orderly...) {
		t.Error("not orderly")
	}
	if l := gathered(Stores(orderly...)); !slices.Equal(l, []stored{{8191, 1}}) {
		t.Error(l)
	}
	for _, n := range []int{1, 2, 70000} {
		isRefused(t, api.ErrLong, both(loads(n), orderly))
	}
}

// TestClosedTooLong closes lists that have just room for what makes them orderly, and such that lack it.
func TestClosedTooLong(t *testing.T) {
	for _, lines := range []int{1, 2, 3, 1000, 1024} {
		var stores []api.Touch
		for line := range lines {
			stores = append(stores, store(8*(1023-line), 5))
		}
		room := 4096 - 2*lines - 1
		for n := room - 2; n <= room+2; n++ {
			l := both(loads(n), stores)
			closed, e := Closed(l...)
			if n > room {
				if len(closed) != 0 || e != api.ErrLong {
					t.Error(lines, n, len(closed), e)
				}
				continue
			}
			want := slices.Clone(l)
			for line := 1024 - lines; line < 1024; line++ {
				want = append(want, flush(line))
			}
			if !slices.Equal(closed, append(want, fence())) || e != api.OK {
				t.Error(lines, n, len(closed), e)
			}
		}
	}
}

func TestLinesAnswers(t *testing.T) {
	rows := []struct {
		l    []api.Touch
		want []int
	}{
		{nil, nil},
		{[]api.Touch{fence(), fence()}, nil},
		{[]api.Touch{load(0, 9)}, []int{0}},
		{[]api.Touch{load(7, 0), store(8, 0)}, []int{0, 1}},
		{[]api.Touch{store(15, 0), load(16, 0)}, []int{1, 2}},
		{[]api.Touch{flush(8), flush(7), flush(8), fence()}, []int{7, 8}},
		{[]api.Touch{flush(1), store(8, 1), load(15, 1), store(9, 2)}, []int{1}},
		{[]api.Touch{flush(1023), store(8191, 1), load(8183, 1), fence(), load(0, 0)}, []int{0, 1022, 1023}},
		{[]api.Touch{store(100, 1), store(99, 1), store(20, 1), flush(300), load(2400, 0)}, []int{2, 12, 300}},
	}
	for _, r := range rows {
		if l, e := Lines(r.l...); !slices.Equal(l, r.want) || e != api.OK {
			t.Error(r.l, l, e)
		}
	}
}

// TestLinesOfAll touches all lines, out of order, some of them twice.
func TestLinesOfAll(t *testing.T) {
	var all []int
	for line := range 1024 {
		all = append(all, line)
	}
	var l []api.Touch
	for k := range 1300 {
		l = append(l, flush(k*389%1024))
	}
	if lines, e := Lines(l...); !slices.Equal(lines, all) || e != api.OK {
		t.Error(lines, e)
	}
	for at := range 8192 {
		for _, x := range []api.Touch{load(at, 1), store(at, 1)} {
			if lines, e := Lines(x); !slices.Equal(lines, []int{at / 8}) || e != api.OK {
				t.Fatal(x, lines, e)
			}
		}
	}
}

func TestCountAnswers(t *testing.T) {
	l := []api.Touch{store(9, 1), fence(), load(9, 1), flush(1), store(9, 1), fence(), store(1, 0), flush(1), store(3, 3)}
	rows := []struct {
		k    api.TouchKind
		want int
	}{{api.TouchNone, 0}, {api.TouchLoad, 1}, {api.TouchStore, 4}, {api.TouchFlush, 2}, {api.TouchFence, 2}, {5, 0}, {-1, 0}, {math.MaxInt, 0}, {math.MinInt, 0}}
	for _, r := range rows {
		if n := Count(r.k, l...); n != r.want {
			t.Error(r.k, n)
		}
		if n := Count(r.k); n != 0 {
			t.Error(r.k, n)
		}
	}
}

// TestCountOfWrongLists: what has a Kind is counted, whether the list is right or not.
func TestCountOfWrongLists(t *testing.T) {
	l := []api.Touch{{}, {At: -5}, {Kind: 7}, {Kind: math.MinInt}, store(-1, 0), flush(5000)}
	rows := []struct {
		k    api.TouchKind
		want int
	}{{api.TouchNone, 2}, {7, 1}, {math.MinInt, 1}, {api.TouchStore, 1}, {api.TouchFlush, 1}, {api.TouchLoad, 0}}
	for _, r := range rows {
		if n := Count(r.k, l...); n != r.want {
			t.Error(r.k, n)
		}
	}
	if n := Count(api.TouchLoad, loads(5000)...); n != 5000 {
		t.Error(n)
	}
}

func TestOrderlyAnswers(t *testing.T) {
	rows := []struct {
		l    []api.Touch
		want bool
	}{
		{nil, true},
		{[]api.Touch{fence()}, true},
		{[]api.Touch{flush(3)}, true},
		{[]api.Touch{load(9, 1), flush(1)}, true},
		{[]api.Touch{store(9, 1)}, false},
		{[]api.Touch{store(9, 1), flush(1)}, false},
		{[]api.Touch{store(9, 1), fence()}, false},
		{[]api.Touch{flush(1), store(9, 1), fence()}, false},
		{[]api.Touch{flush(1), fence(), store(9, 1)}, false},
		{[]api.Touch{store(9, 1), flush(9), fence()}, false},
		{[]api.Touch{store(9, 1), flush(0), fence()}, false},
		{[]api.Touch{store(9, 1), flush(1), fence(), flush(1)}, true},
		{[]api.Touch{store(9, 1), flush(1), fence(), flush(1), fence()}, true},
		{[]api.Touch{store(9, 1), flush(1), flush(1), fence()}, true},
		{[]api.Touch{store(9, 1), flush(1), store(9, 1), fence()}, false},
		{[]api.Touch{store(9, 1), flush(1), store(8, 1), fence()}, false},
		{[]api.Touch{store(9, 1), flush(1), store(16, 1), fence()}, false},
		{[]api.Touch{store(9, 1), flush(1), store(16, 1), flush(2), fence()}, true},
		{[]api.Touch{store(9, 1), store(16, 1), flush(2), fence(), flush(1)}, false},
		{[]api.Touch{store(9, 1), store(16, 1), flush(2), fence(), flush(1), fence()}, true},
		{[]api.Touch{store(9, 1), flush(1), fence(), store(15, 1)}, false},
		{[]api.Touch{store(9, 1), flush(1), fence(), store(15, 1), flush(1), fence()}, true},
		{[]api.Touch{store(9, 1), flush(1), fence(), load(9, 1)}, true},
		{[]api.Touch{store(0, 1), store(8191, 1), flush(0), flush(1023), fence()}, true},
		{[]api.Touch{store(0, 1), store(8191, 1), flush(0), fence()}, false},
	}
	for _, r := range rows {
		if Orderly(r.l...) != r.want {
			t.Error(r.l)
		}
	}
}

func TestClosedAnswers(t *testing.T) {
	rows := []struct{ l, more []api.Touch }{
		{nil, nil},
		{[]api.Touch{load(5, 1), flush(2)}, nil},
		{[]api.Touch{store(9, 1), flush(1), fence()}, nil},
		{[]api.Touch{store(9, 1), flush(1)}, []api.Touch{flush(1), fence()}},
		{[]api.Touch{store(99, 1), store(9, 1), store(98, 2), load(50, 0), flush(7)}, []api.Touch{flush(1), flush(12), fence()}},
		// Line 1 is kept already, and comes again nevertheless.
		{[]api.Touch{store(9, 1), flush(1), fence(), store(0, 1)}, []api.Touch{flush(0), flush(1), fence()}},
		{[]api.Touch{store(8191, 1), store(0, 1)}, []api.Touch{flush(0), flush(1023), fence()}},
	}
	for _, r := range rows {
		if l, e := Closed(r.l...); !slices.Equal(l, both(r.l, r.more)) || e != api.OK {
			t.Error(r.l, l, e)
		}
	}
}

// TestAllShortLists holds all lists of up to six touches, out of a few in two lines, against what is asked place by place.
func TestAllShortLists(t *testing.T) {
	touches := []api.Touch{store(1, 5), store(8, 6), flush(0), flush(1), fence(), load(1, 4)}
	for length := range 7 {
		for _, l := range lists(touches, length) {
			orderly := slowOrderly(l, 2)
			if Orderly(l...) != orderly {
				t.Fatal(l, !orderly)
			}
			closed, e := Closed(l...)
			if !slices.Equal(closed, slowClosed(l, 2)) || e != api.OK {
				t.Fatal(l, closed, e)
			}
			if again, e := Closed(closed...); !Orderly(closed...) || !slices.Equal(again, closed) || e != api.OK {
				t.Fatal(l, closed, again, e)
			}
			if !slices.Equal(gathered(Stores(closed...)), gathered(Stores(l...))) {
				t.Fatal(l, closed)
			}
		}
	}
}

func TestAllStores(t *testing.T) {
	touches := []api.Touch{store(0, 1), store(7, 2), store(8, 3), store(7, 4), load(0, 9), flush(7), fence()}
	for length := range 5 {
		for _, l := range lists(touches, length) {
			if told, want := gathered(Stores(l...)), slowStores(l); !slices.Equal(told, want) {
				t.Fatal(l, told, want)
			}
		}
	}
}

// TestStoresOfMany stores 4096 times, out of order, at some addresses more than once.
func TestStoresOfMany(t *testing.T) {
	var l []api.Touch
	for k := range 4096 {
		l = append(l, store(k*2731%8192%4000, uint64(k)))
	}
	if told := gathered(Stores(l...)); !slices.Equal(told, slowStores(l)) {
		t.Error(told)
	}
}

// TestTwoLists holds each pair of short lists, one behind the other.
func TestTwoLists(t *testing.T) {
	touches := []api.Touch{store(1, 5), store(2, 6), store(8, 7), flush(0), flush(1), fence()}
	var all [][]api.Touch
	for length := range 4 {
		all = append(all, lists(touches, length)...)
	}
	for _, first := range all {
		for _, second := range all {
			pair := both(first, second)
			if Orderly(first...) && Orderly(second...) && !Orderly(pair...) {
				t.Fatal(first, second)
			}
			want := gathered(Stores(second...))
			for at, w := range Stores(first...) {
				if !slices.ContainsFunc(want, func(x stored) bool { return x.at == at }) {
					want = append(want, stored{at, w})
				}
			}
			slices.SortFunc(want, func(a, b stored) int { return a.at - b.at })
			if told := gathered(Stores(pair...)); !slices.Equal(told, want) {
				t.Fatal(first, second, told, want)
			}
		}
	}
}

func TestStoresLeftAndGoneOverAgain(t *testing.T) {
	over := Stores(store(9, 1), store(8, 2), store(70, 3), store(9, 4), fence())
	want := []stored{{8, 2}, {9, 4}, {70, 3}}
	for at := range over {
		if at == 9 {
			break
		}
	}
	for stay := range 3 {
		asked := 0
		over(func(int, uint64) bool {
			asked++
			return asked <= stay
		})
		if asked != stay+1 {
			t.Errorf("asked %d times, told to stop at %d", asked, stay+1)
		}
	}
	var outer []stored
	for at, w := range over {
		outer = append(outer, stored{at, w})
		if inner := gathered(over); !slices.Equal(inner, want) {
			t.Error(at, inner)
		}
	}
	if !slices.Equal(outer, want) {
		t.Error(outer)
	}
}

// TestListsStayAndAreNotKept hands in a list with spare room, and changes what was answered, and what was handed in.
func TestListsStayAndAreNotKept(t *testing.T) {
	room := []api.Touch{store(9, 1), store(8, 2), load(3, 3), store(17, 4), store(18, 5), fence(), fence()}
	was := slices.Clone(room)
	l := room[:3]
	over := Stores(l...)
	lines, _ := Lines(l...)
	closed, _ := Closed(l...)
	orderly, _ := Closed(room[5:6]...)
	Check(l...)
	Count(api.TouchStore, l...)
	Orderly(l...)
	if !slices.Equal(room, was) {
		t.Fatal(room)
	}
	want := both(was[:3], []api.Touch{flush(1), fence()})
	room[0], room[1], room[2], room[5] = store(100, 1), store(8, 77), load(4, 4), load(5, 5)
	if !slices.Equal(closed, want) || !slices.Equal(orderly, []api.Touch{fence()}) || !slices.Equal(lines, []int{0, 1}) {
		t.Error(closed, orderly, lines)
	}
	if told := gathered(over); !slices.Equal(told, []stored{{8, 2}, {9, 1}}) {
		t.Error(told)
	}
	closed[0], orderly[0], lines[0] = flush(7), flush(7), 7
	_, _, _ = append(closed, flush(7)), append(orderly, flush(7)), append(lines, 7)
	if room[0] != store(100, 1) || room[5] != load(5, 5) || room[6] != fence() {
		t.Error(room)
	}
}
