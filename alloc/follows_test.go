package alloc

import (
	"slices"
	"testing"

	"waterline/api"
)

// lists tells all lists of at most so many lines, from a first one on up to a last one.
func lists(first, last, most int) [][]int {
	all := [][]int{nil}
	for at := 0; at < len(all); at++ {
		if len(all[at]) == most {
			continue
		}
		for n := first; n <= last; n++ {
			all = append(all, append(slices.Clone(all[at]), n))
		}
	}
	return all
}

// nexts does all calls to a pool, each to a copy of its own, and hands on what comes of it.
func nexts(t *testing.T, p *Pool, s slow, each func(*Pool, slow)) {
	for many := -1; many <= s.last-s.first+2; many++ {
		c := p.Copy()
		next, want, wrong := s.take(many)
		if l, e := c.Take(many); !slices.Equal(l, want) || e != wrong {
			t.Fatalf("Take of %d tells %v, %d, not %v, %d, behind %v", many, l, e, want, wrong, s)
		}
		each(c, next)
	}
	for _, l := range lists(s.first-1, s.last+1, 3) {
		c := p.Copy()
		next, wrong := s.give(l...)
		if e := c.Give(l...); e != wrong {
			t.Fatalf("Give of %v tells %d, not %d, behind %v", l, e, wrong, s)
		}
		each(c, next)
		c = p.Copy()
		next, wrong = s.claim(l...)
		if e := c.Claim(l...); e != wrong {
			t.Fatalf("Claim of %v tells %d, not %d, behind %v", l, e, wrong, s)
		}
		each(c, next)
	}
}

// stand is how three lines are: the count of each, and whether it is taken.
type stand [3]line

func standOf(s slow) stand {
	var at stand
	for n := range at {
		at[n] = line{s.taken(s.first + n), s.count(s.first + n)}
	}
	return at
}

// TestAllThatIsDone does all calls to all pools of three lines that come of four calls.
func TestAllThatIsDone(t *testing.T) {
	type pair struct {
		pool *Pool
		slow slow
	}
	p, s := made(t, 5, 7), slow{first: 5, last: 7}
	layer, reached := []pair{{p, s}}, map[stand]int{standOf(s): 1}
	for range 5 {
		var next []pair
		for _, x := range layer {
			nexts(t, x.pool, x.slow, func(p *Pool, s slow) {
				s.like(t, p)
				if at := standOf(s); reached[at] == 0 {
					reached[at] = 1
					next = append(next, pair{p, s})
				}
			})
		}
		layer = next
	}
}

// picked tells some lines, mostly such as are right.
func picked(m *sampler, s slow, taken bool) []int {
	right := s.lines(taken)
	var l []int
	for range m.below(4) {
		n := s.first - 2 + m.below(s.last-s.first+5)
		if len(right) > 0 && m.below(8) > 0 {
			n = right[m.below(len(right))]
		}
		l = append(l, n)
	}
	return l
}

func TestAtRandom(t *testing.T) {
	m := sampler(13)
	for _, b := range [][2]int{{0, 0}, {0, 6}, {1019, 1023}, {4, 31}, {500, 501}} {
		p, s := made(t, b[0], b[1]), slow{first: b[0], last: b[1]}
		for range 400 {
			var e, wrong api.Errno
			var l, want []int
			before := p.Copy()
			switch m.below(3) {
			case 0:
				many := m.below(6) - 1
				l, e = p.Take(many)
				s, want, wrong = s.take(many)
			case 1:
				lines := picked(&m, s, true)
				e = p.Give(lines...)
				s, wrong = s.give(lines...)
			case 2:
				lines := picked(&m, s, false)
				e = p.Claim(lines...)
				s, wrong = s.claim(lines...)
			}
			if !slices.Equal(l, want) || e != wrong {
				t.Fatal(l, want, e, wrong, s)
			}
			if e != api.OK && !Same(p, before) {
				t.Fatal("changed beside", e, s)
			}
			s.like(t, p)
		}
	}
}

// patterns goes over pools of six lines in which each set of lines is taken.
func patterns(t *testing.T, each func(p *Pool, taken []int)) {
	for set := range 64 {
		p := made(t, 20, 25)
		var taken []int
		for n := range 6 {
			if set>>n&1 == 1 {
				taken = append(taken, 20+n)
			}
		}
		claims(t, p, api.OK, taken...)
		each(p, taken)
	}
}

// TestTakenInTwoIsTakenInOne asks it for all that can be taken.
func TestTakenInTwoIsTakenInOne(t *testing.T) {
	patterns(t, func(p *Pool, taken []int) {
		free := p.Free()
		for both := range free + 1 {
			for first := range both + 1 {
				one, two := p.Copy(), p.Copy()
				whole, _ := one.Take(both)
				a, e := two.Take(first)
				b, f := two.Take(both - first)
				if e != api.OK || f != api.OK || !slices.Equal(append(a, b...), whole) {
					t.Error(taken, first, both, a, b, whole)
				}
				isSame(t, one, two, true)
			}
		}
		takesNot(t, p.Copy(), free+1, api.ErrFull)
	})
}

// TestTakenAndGiven asks that the lines that are taken are as they were, and that no line is taken that was not given.
func TestTakenAndGiven(t *testing.T) {
	patterns(t, func(p *Pool, taken []int) {
		for many := range p.Free() + 1 {
			c := p.Copy()
			l, _ := c.Take(many)
			for _, n := range l {
				if slices.Contains(taken, n) {
					t.Error(taken, l)
				}
				claims(t, c, api.ErrTaken, n)
			}
			more, _ := c.Take(c.Free())
			for _, n := range more {
				if slices.Contains(l, n) || slices.Contains(taken, n) {
					t.Error(taken, l, more)
				}
			}
			gives(t, c, api.OK, more...)
			gives(t, c, api.OK, l...)
			isTaken(t, c, 20, 25, taken...)
			again, _ := c.Take(many)
			if !slices.Equal(again, l) {
				t.Error(taken, l, again)
			}
			for _, n := range taken {
				isCount(t, c, n, 1)
			}
		}
	})
}
