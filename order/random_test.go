package order

import (
	"slices"
	"testing"

	"waterline/api"
	"waterline/model"
	"waterline/tree"
)

// asSlow asks everything, and holds it against the slow answers.
func asSlow(t *testing.T, from, to *tree.Tree, l []api.Call, times ...int) {
	t.Helper()
	wrong := slowCheck(l)
	if e := Check(l...); e != wrong {
		t.Fatalf("Check tells %d, not %d, of %v", e, wrong, l)
	}
	for _, time := range times {
		if got, want := slices.Collect(Under(time, l...)), slowUnder(time, l); !slices.Equal(got, want) {
			t.Fatalf("at %d are under way %v, not %v, of %v", time, got, want, l)
		}
	}
	if wrong != api.OK {
		isRefused(t, wrong, l...)
		return
	}
	isMarked(t, slowMarked(l), l...)
	holds(t, from, slowHolds(from, l), l...)
	leads(t, from, slowAfter(from, l), l...)
	n, is := slowComes(from, to, l)
	comes(t, from, to, n, is, l...)
	if t.Failed() {
		t.Fatalf("%v", l)
	}
}

// worse changes one thing of one call.
func worse(s *sampler, l []api.Call) []api.Call {
	other := slices.Clone(l)
	if len(other) == 0 {
		return other
	}
	c, d := &other[s.below(len(l))], other[s.below(len(l))]
	switch s.below(9) {
	case 0:
		c.Thread = pick(s, d.Thread, d.Thread, c.Thread+1, -1)
	case 1:
		c.Begin = pick(s, d.End, d.Mark, d.Begin, c.Begin-1, c.Begin+1)
	case 2:
		c.Mark = pick(s, d.End, d.Mark, d.Begin, c.Mark-1, c.Mark+1)
	case 3:
		c.End = pick(s, d.End, d.Mark, d.Begin, c.End-1, c.End+1)
	case 4:
		c.Ended = !c.Ended
	case 5:
		c.Marked, c.Ended = !c.Marked, false
	case 6:
		c.Res = d.Res
	case 7:
		c.Op = d.Op
	case 8:
		c.Res.Errno++
	}
	return other
}

func TestRandomHistories(t *testing.T) {
	s := sampler(1)
	from := grown("/f")
	from.Make("/d", api.InodeDir)
	for round := range 800 {
		l := mixed(&s, lived(&s, from, s.below(40)))
		if n, is, e := Holds(from, l...); n != -1 || !is || e != api.OK {
			t.Fatal(round, n, is, e)
		}
		to := slowAfter(from, l)
		for range 4 {
			asSlow(t, from, to, l, s.below(45), s.below(45))
			asSlow(t, tree.New(), from, l)
			if n := s.below(len(l) + 1); n < len(l) && slowCheck(l) == api.OK {
				to = slowAfter(from, l, n)
			}
			l = worse(&s, l)
		}
	}
}

// TestFewTimes has all histories of two calls whose times are few, and of three of them.
func TestFewTimes(t *testing.T) {
	var all []api.Call
	for thread := range 2 {
		for begin := range 3 {
			for mark := range 4 {
				for end := range 4 {
					c := at(thread, begin, mark, end)
					all = append(all, c)
					c.Marked, c.Ended = mark > 0, end > 0
					all = append(all, c)
				}
			}
		}
	}
	s := sampler(7)
	for _, a := range all {
		for _, b := range all {
			l := []api.Call{a, b}
			if e := Check(l...); e != slowCheck(l) {
				t.Fatalf("Check tells %d of %v", e, l)
			}
			l = append(l, pick(&s, all...))
			if e := Check(l...); e != slowCheck(l) {
				t.Fatalf("Check tells %d of %v", e, l)
			}
			time := s.below(4)
			if got := slices.Collect(Under(time, l...)); !slices.Equal(got, slowUnder(time, l)) {
				t.Fatalf("at %d are under way %v of %v", time, got, l)
			}
		}
	}
}

// TestOneThread has calls by one thread, each with the model's result, whatever lies between (P12.3).
func TestOneThread(t *testing.T) {
	s := sampler(3)
	for range 200 {
		m := model.New()
		now := s.below(3)
		var l []api.Call
		for range s.below(30) {
			c := api.Call{Thread: 4, Op: someOp(&s), Begin: now, Mark: now + s.below(3), Marked: true, Ended: true}
			c.End = c.Mark + s.below(1000)
			c.Res = m.Do(c.Op)
			now = c.End + 1 + s.below(1000)
			l = append(l, c)
		}
		l = mixed(&s, l)
		holds(t, tree.New(), -1, l...)
		leads(t, tree.New(), m.Tree(), l...)
		comes(t, tree.New(), m.Tree(), -1, true, l...)
	}
}

// TestWhatFollows takes calls away from what was lived, and marks others behind all (P12.3).
func TestWhatFollows(t *testing.T) {
	s := sampler(5)
	from := grown("/f", "/g")
	for range 400 {
		l := mixed(&s, lived(&s, from, s.below(60)))
		if s.below(2) > 0 {
			l = worse(&s, l)
		}
		if Check(l...) != api.OK {
			continue
		}
		for n, c := range l {
			less := slices.Delete(slices.Clone(l), n, n+1)
			switch {
			case !c.Marked:
				first := slowHolds(from, l)
				if first > n {
					first--
				}
				holds(t, from, first, less...)
				last := slices.Clone(l)
				last[n].Marked, last[n].Mark = true, 1000
				x, e := After(from, last...)
				if place, is, _ := Comes(from, x, l...); e != api.OK || !is || place > n {
					t.Error("it does not come of the call that is not marked", place, is, e)
				}
			case model.Asks(c.Op.Kind) || slowHolds(from, l) < 0 && c.Ended && c.Res.Errno != api.OK:
				if slowHolds(from, l) < 0 {
					holds(t, from, -1, less...)
				}
				leads(t, from, slowAfter(from, l), less...)
			}
		}
	}
}
