package pmem

import (
	"maps"
	"slices"
	"testing"

	"waterline/api"
)

// sampler makes the same numbers in each run.
type sampler uint64

func (s *sampler) next() uint64 {
	*s = *s*6364136223846793005 + 1442695040888963407
	return uint64(*s ^ *s>>29)
}

func (s *sampler) below(n int) int { return int(s.next() >> 1 % uint64(n)) }

// slow is a device that is told word by word; which line came ahead is told by when it was flushed.
type slow struct {
	lines, now        int
	seen, stays, held map[int]uint64 // by addresses; held: of the lines that wait
	since             map[int]int    // by lines
}

func slowNew(lines int) *slow {
	return &slow{lines: lines, seen: map[int]uint64{}, stays: map[int]uint64{}, held: map[int]uint64{}, since: map[int]int{}}
}

func (s *slow) copy() *slow {
	return &slow{lines: s.lines, now: s.now, seen: maps.Clone(s.seen), stays: maps.Clone(s.stays), held: maps.Clone(s.held), since: maps.Clone(s.since)}
}

func move(line int, from, to map[int]uint64) {
	for at := 8 * line; at < 8*line+8; at++ {
		to[at] = from[at]
	}
}

func (s *slow) flush(line int) {
	s.now++
	s.since[line] = s.now
	move(line, s.seen, s.held)
}

func (s *slow) queue() []int {
	return slices.SortedFunc(maps.Keys(s.since), func(a, b int) int { return s.since[a] - s.since[b] })
}

func (s *slow) fence() {
	for line := range s.since {
		move(line, s.held, s.stays)
	}
	clear(s.since)
}

func (s *slow) evict(line int) {
	move(line, s.seen, s.stays)
	delete(s.since, line)
}

func (s *slow) crash(marks ...bool) {
	for k, line := range s.queue() {
		if k < len(marks) && marks[k] {
			move(line, s.held, s.stays)
		}
	}
	clear(s.since)
	for line := range s.lines {
		move(line, s.stays, s.seen)
	}
}

func (s *slow) state() api.Media {
	dirty := 0
	for line := range s.lines {
		for at := 8 * line; at < 8*line+8; at++ {
			if s.seen[at] != s.stays[at] {
				dirty++
				break
			}
		}
	}
	return api.Media{Lines: s.lines, Waiting: len(s.since), Dirty: dirty}
}

// words are the words that a device tells, all of them.
func words(t *testing.T, d *Device, tell func(*Device, int) (uint64, api.Errno)) []uint64 {
	t.Helper()
	l := make([]uint64, 8*d.State().Lines)
	for at := range l {
		w, e := tell(d, at)
		if e != api.OK {
			t.Fatal(at, e)
		}
		l[at] = w
	}
	return l
}

func loads(t *testing.T, d *Device) []uint64 {
	t.Helper()
	return words(t, d, (*Device).Load)
}

func stayings(t *testing.T, d *Device) []uint64 {
	t.Helper()
	return words(t, d, (*Device).Stays)
}

func waits(d *Device) []int { return slices.Collect(d.Waits()) }

// like asks whether a device is as the slow one: what waits is told by a copy that is fenced.
func (s *slow) like(t *testing.T, d *Device) {
	t.Helper()
	if m := d.State(); m != s.state() {
		t.Fatal(m, s.state())
	}
	if l := waits(d); !slices.Equal(l, s.queue()) {
		t.Fatal(l, s.queue())
	}
	seen, stays := loads(t, d), stayings(t, d)
	for at := range 8 * s.lines {
		if seen[at] != s.seen[at] || stays[at] != s.stays[at] {
			t.Fatal(at, seen[at], s.seen[at], stays[at], s.stays[at])
		}
	}
	after, fenced := s.copy(), d.Copy()
	after.fence()
	if e := fenced.Fence(); e != api.OK {
		t.Fatal(e)
	}
	for at, w := range stayings(t, fenced) {
		if w != after.stays[at] {
			t.Fatal(at, w, after.stays[at])
		}
	}
}
