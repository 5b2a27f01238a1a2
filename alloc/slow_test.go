package alloc

import (
	"slices"
	"testing"

	"waterline/api"
)

// deed is a line that was taken, or given.
type deed struct {
	line  int
	taken bool
}

// slow is a pool that is told by all that was done to it.
type slow struct {
	first, last int
	done        []deed
}

func (s slow) has(line int) bool { return line >= s.first && line <= s.last }

// taken asks what was done last to the line.
func (s slow) taken(line int) bool {
	is := false
	for _, d := range s.done {
		if d.line == line {
			is = d.taken
		}
	}
	return is
}

func (s slow) count(line int) int {
	many := 0
	for _, d := range s.done {
		if d == (deed{line, true}) {
			many++
		}
	}
	return many
}

// lines tells the lines that are taken, or those that are free.
func (s slow) lines(taken bool) []int {
	var l []int
	for n := s.first; n <= s.last; n++ {
		if s.taken(n) == taken {
			l = append(l, n)
		}
	}
	return l
}

// with never shares what was done with another one.
func (s slow) with(taken bool, lines ...int) slow {
	for _, n := range lines {
		s.done = append(slices.Clip(s.done), deed{n, taken})
	}
	return s
}

func (s slow) take(many int) (slow, []int, api.Errno) {
	if many < 0 {
		return s, nil, api.ErrArg
	}
	free := s.lines(false)
	if many > len(free) {
		return s, nil, api.ErrFull
	}
	return s.with(true, free[:many]...), free[:many], api.OK
}

// turned does one line behind the other, till one is not such.
func (s slow) turned(taken bool, otherwise api.Errno, lines ...int) (slow, api.Errno) {
	for _, n := range lines {
		if !s.has(n) {
			return s, api.ErrRange
		}
	}
	next := s
	for _, n := range lines {
		if next.taken(n) == taken {
			return s, otherwise
		}
		next = next.with(taken, n)
	}
	return next, api.OK
}

func (s slow) give(lines ...int) (slow, api.Errno) {
	return s.turned(false, api.ErrNone, lines...)
}

func (s slow) claim(lines ...int) (slow, api.Errno) {
	return s.turned(true, api.ErrTaken, lines...)
}

// like asks whether a pool is as the slow one.
func (s slow) like(t *testing.T, p *Pool) {
	t.Helper()
	isTaken(t, p, s.first, s.last, s.lines(true)...)
	for n := s.first; n <= s.last; n++ {
		isCount(t, p, n, s.count(n))
	}
	if t.Failed() {
		t.Fatal(s)
	}
}

// sampler makes the same numbers in each run.
type sampler uint64

func (s *sampler) next() uint64 {
	*s = *s*6364136223846793005 + 1442695040888963407
	return uint64(*s ^ *s>>29)
}

func (s *sampler) below(n int) int { return int(s.next() >> 1 % uint64(n)) }
