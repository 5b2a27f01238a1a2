package order

import (
	"waterline/api"
	"waterline/model"
	"waterline/tree"
)

// sampler makes the same numbers in each run.
type sampler uint64

func (s *sampler) next() uint64 {
	*s = *s*6364136223846793005 + 1442695040888963407
	return uint64(*s ^ *s>>29)
}

func (s *sampler) below(n int) int { return int(s.next() >> 1 % uint64(n)) }

func pick[T any](s *sampler, l ...T) T { return l[s.below(len(l))] }

// slowOver tells whether two calls are under way at once, as far as their times say it.
func slowOver(a, b api.Call) bool {
	return (!a.Ended || a.End >= b.Begin) && (!b.Ended || b.End >= a.Begin)
}

func slowCheck(l []api.Call) api.Errno {
	for _, c := range l {
		fine := 0 <= c.Thread && c.Thread <= 7 && 0 <= c.Begin && c.Begin <= 1<<30
		if c.Marked {
			fine = fine && c.Begin <= c.Mark && c.Mark <= 1<<30
		}
		if c.Ended {
			fine = fine && c.Marked && c.Mark <= c.End && c.End <= 1<<30
		}
		if !fine {
			return api.ErrArg
		}
	}
	if len(l) > 2000 {
		return api.ErrLong
	}
	for at, a := range l {
		for _, b := range l[:at] {
			if a.Marked && b.Marked && a.Mark == b.Mark || a.Thread == b.Thread && slowOver(a, b) {
				return api.ErrOrder
			}
		}
	}
	return api.OK
}

// slowMarked tells the marked calls of a history, the least Mark first.
func slowMarked(l []api.Call) []int {
	var places []int
	for last := -1; ; {
		next := -1
		for at, c := range l {
			if c.Marked && c.Mark > last && (next < 0 || c.Mark < l[next].Mark) {
				next = at
			}
		}
		if next < 0 {
			return places
		}
		places = append(places, next)
		last = l[next].Mark
	}
}

func slowHolds(from *tree.Tree, l []api.Call) int {
	m, _ := model.Of(from)
	for _, at := range slowMarked(l) {
		if r := m.Do(l[at].Op); l[at].Ended && !model.Equal(r, l[at].Res) {
			return at
		}
	}
	return -1
}

// slowAfter tells the tree behind the marked calls, and more of them.
func slowAfter(from *tree.Tree, l []api.Call, more ...int) *tree.Tree {
	m, _ := model.Of(from)
	for _, at := range append(slowMarked(l), more...) {
		m.Do(l[at].Op)
	}
	return m.Tree()
}

func slowComes(from, to *tree.Tree, l []api.Call) (int, bool) {
	if tree.Same(slowAfter(from, l), to) {
		return -1, true
	}
	for at, c := range l {
		k := c.Op.Kind
		if !c.Marked && k != api.OpStat && k != api.OpList && k != api.OpRead && tree.Same(slowAfter(from, l, at), to) {
			return at, true
		}
	}
	return -1, false
}

func slowUnder(at int, l []api.Call) []int {
	var places []int
	for n, c := range l {
		if slowCheck(l) == api.OK && !(c.Begin > at) && !(c.Ended && c.End < at) {
			places = append(places, n)
		}
	}
	return places
}

// someOp tells an operation at one of few paths.
func someOp(s *sampler) api.Op {
	paths := []string{"/f", "/g", "/d", "/d/f", "/", "/d/d", "f"}
	return api.Op{Kind: api.OpKind(s.below(13)), Path: pick(s, paths...), To: pick(s, paths...), At: pick(s, 0, 1, 3, -1, 448), N: pick(s, 0, 1, 2, 500), Bytes: pick(s, nil, []byte("x"), []byte("hi"))}
}

// lived tells calls as threads have them that do to a model what they ask: a history that holds.
func lived(s *sampler, from *tree.Tree, steps int) []api.Call {
	m, _ := model.Of(from)
	var l []api.Call
	threads := 1 + s.below(8)
	open := map[int]int{}
	res := map[int]api.Res{}
	for now := range steps {
		thread := s.below(threads)
		at, is := open[thread]
		switch {
		case !is:
			open[thread] = len(l)
			l = append(l, api.Call{Thread: thread, Op: someOp(s), Begin: now})
		case !l[at].Marked:
			l[at].Marked, l[at].Mark = true, now
			res[at] = m.Do(l[at].Op)
			if s.below(4) > 0 {
				continue
			}
			fallthrough
		default:
			l[at].Ended, l[at].End, l[at].Res = true, now, res[at]
			delete(open, thread)
		}
	}
	return l
}

// mixed tells the same calls in another order.
func mixed(s *sampler, l []api.Call) []api.Call {
	other := append([]api.Call(nil), l...)
	for n := len(other) - 1; n > 0; n-- {
		at := s.below(n + 1)
		other[n], other[at] = other[at], other[n]
	}
	return other
}
