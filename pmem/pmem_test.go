package pmem

import (
	"math"
	"slices"
	"testing"

	"waterline/api"
)

func made(t *testing.T, lines int) *Device {
	t.Helper()
	d, e := New(lines)
	if d == nil || e != api.OK {
		t.Fatal(lines, d, e)
	}
	return d
}

// fine asks that nothing was refused.
func fine(t *testing.T, l ...api.Errno) {
	t.Helper()
	for i, e := range l {
		if e != api.OK {
			t.Fatal(i, e)
		}
	}
}

func isWord(t *testing.T, w uint64, e api.Errno, want uint64) {
	t.Helper()
	if w != want || e != api.OK {
		t.Error(w, e, "not", want)
	}
}

func isLoad(t *testing.T, d *Device, at int, want uint64) {
	t.Helper()
	w, e := d.Load(at)
	isWord(t, w, e, want)
}

func isStays(t *testing.T, d *Device, at int, want uint64) {
	t.Helper()
	w, e := d.Stays(at)
	isWord(t, w, e, want)
}

func isWaits(t *testing.T, d *Device, want ...int) {
	t.Helper()
	if l := waits(d); !slices.Equal(l, want) {
		t.Error(l, "not", want)
	}
}

func isSame(t *testing.T, a, b *Device, want bool) {
	t.Helper()
	if Same(a, b) != want || Same(b, a) != want {
		t.Error("the same:", !want)
	}
}

func TestExamples(t *testing.T) {
	d := made(t, 2)
	fine(t, d.Store(3, 7))
	isLoad(t, d, 3, 7)
	isStays(t, d, 3, 0)
	fine(t, d.Flush(0), d.Store(3, 8), d.Fence())
	isStays(t, d, 3, 7)
	isLoad(t, d, 3, 8)
	fine(t, d.Evict(0), d.Store(9, 5), d.Flush(1), d.Crash(false))
	isLoad(t, d, 3, 8)
	isLoad(t, d, 9, 0)
	if was, e := d.Swap(3, 8, 1); !was || e != api.OK {
		t.Error(was, e)
	}
	isLoad(t, d, 3, 1)
	if w, e := d.Load(16); w != 0 || e != api.ErrRange {
		t.Error(w, e)
	}
}

func TestNewAtBounds(t *testing.T) {
	for _, lines := range []int{1, 2, 8, 1023, 1024} {
		d := made(t, lines)
		if m := d.State(); m != (api.Media{Lines: lines}) {
			t.Error(lines, m)
		}
		for at := range 8 * lines {
			isLoad(t, d, at, 0)
			isStays(t, d, at, 0)
		}
		isWaits(t, d)
		isSame(t, d, made(t, lines), true)
	}
	for _, lines := range []int{0, -1, 1025, -1024, 1 << 20, math.MaxInt, math.MinInt} {
		if d, e := New(lines); d != nil || e != api.ErrArg {
			t.Error(lines, d, e)
		}
	}
}

// TestWrongNumbers asks that what is refused changes nothing.
func TestWrongNumbers(t *testing.T) {
	for _, lines := range []int{1, 2, 7, 1023, 1024} {
		d := made(t, lines)
		fine(t, d.Store(0, 5), d.Flush(0), d.Store(8*lines-1, 6))
		before := d.Copy()
		for _, n := range []int{lines, lines + 1, 1024, 1025, 8192, 8193, -1, -8, -9, -8192, 1 << 53, 1 << 61, math.MinInt, math.MinInt + 1, math.MaxInt} {
			for _, e := range []api.Errno{d.Flush(n), d.Evict(n)} {
				if e != api.ErrRange {
					t.Error(lines, n, e)
				}
			}
		}
		for _, at := range []int{8 * lines, 8*lines + 1, 8*lines + 7, 8192, 8193, -1, -7, -8, -8192, 1 << 53, 1 << 61, math.MinInt, math.MinInt + 1, math.MaxInt} {
			if w, e := d.Load(at); w != 0 || e != api.ErrRange {
				t.Error(lines, at, w, e)
			}
			if w, e := d.Stays(at); w != 0 || e != api.ErrRange {
				t.Error(lines, at, w, e)
			}
			if e := d.Store(at, 9); e != api.ErrRange {
				t.Error(lines, at, e)
			}
			if was, e := d.Swap(at, 0, 9); was || e != api.ErrRange {
				t.Error(lines, at, was, e)
			}
		}
		isSame(t, d, before, true)
	}
}

func TestNoDevice(t *testing.T) {
	refused, _ := New(0)
	for i, d := range []*Device{nil, {}, refused} {
		for _, n := range []int{0, -1, 1 << 40, math.MinInt, math.MaxInt} {
			if w, e := d.Load(n); w != 0 || e != api.ErrNil {
				t.Error(i, n, w, e)
			}
			if w, e := d.Stays(n); w != 0 || e != api.ErrNil {
				t.Error(i, n, w, e)
			}
			if was, e := d.Swap(n, 0, 0); was || e != api.ErrNil {
				t.Error(i, n, was, e)
			}
			for k, e := range []api.Errno{d.Store(n, 1), d.Flush(n), d.Evict(n), d.Fence(), d.Crash(), d.Crash(true)} {
				if e != api.ErrNil {
					t.Error(i, n, k, e)
				}
			}
		}
		if m := d.State(); m != (api.Media{}) {
			t.Error(i, m)
		}
		for range 2 {
			isWaits(t, d)
		}
		if c := d.Copy(); c != nil {
			t.Error(i, c)
		}
		for _, other := range []*Device{nil, {}, refused} {
			isSame(t, d, other, true)
		}
		isSame(t, d, made(t, 1), false)
	}
}

// TestStoreOfAll stores at each address alone.
func TestStoreOfAll(t *testing.T) {
	for _, lines := range []int{1, 3} {
		for at := range 8 * lines {
			d := made(t, lines)
			fine(t, d.Store(at, math.MaxUint64))
			for k, w := range loads(t, d) {
				if (w != 0) != (k == at) {
					t.Error(lines, at, k, w)
				}
			}
			if slices.ContainsFunc(stayings(t, d), func(w uint64) bool { return w != 0 }) {
				t.Error(lines, at, "stays")
			}
			if m := d.State(); m != (api.Media{Lines: lines, Dirty: 1}) {
				t.Error(lines, at, m)
			}
			fine(t, d.Store(at, 0))
			isSame(t, d, made(t, lines), true)
		}
	}
	d := made(t, 1024)
	for at := range 8192 {
		fine(t, d.Store(at, uint64(at)^77))
	}
	for at := range 8192 {
		isLoad(t, d, at, uint64(at)^77)
		isStays(t, d, at, 0)
	}
}

func TestSwap(t *testing.T) {
	d := made(t, 2)
	rows := []struct {
		at           int
		from, to     uint64
		was          bool
		then, behind uint64 // what is seen there, and one behind
	}{
		{9, 0, 4, true, 4, 0},
		{9, 0, 5, false, 4, 0},
		{9, 5, 5, false, 4, 0},
		{9, 4, 4, true, 4, 0},
		{10, 0, math.MaxUint64, true, math.MaxUint64, 0},
		{10, math.MaxUint64, 0, true, 0, 0},
		{9, 4, 0, true, 0, 0},
		{14, 1, 0, false, 0, 0},
	}
	for i, r := range rows {
		if was, e := d.Swap(r.at, r.from, r.to); was != r.was || e != api.OK {
			t.Error(i, was, e)
		}
		isLoad(t, d, r.at, r.then)
		isLoad(t, d, r.at+1, r.behind)
		isStays(t, d, r.at, 0)
		isWaits(t, d)
	}
	isSame(t, d, made(t, 2), true)
}

func TestFlushComesLast(t *testing.T) {
	d := made(t, 4)
	fine(t, d.Store(8, 1), d.Flush(1), d.Flush(3), d.Flush(0))
	isWaits(t, d, 1, 3, 0)
	fine(t, d.Flush(0))
	isWaits(t, d, 1, 3, 0)
	fine(t, d.Store(8, 2), d.Store(9, 3), d.Flush(1))
	isWaits(t, d, 3, 0, 1)
	fine(t, d.Flush(3))
	isWaits(t, d, 0, 1, 3)
	if m := d.State(); m != (api.Media{Lines: 4, Waiting: 3, Dirty: 1}) {
		t.Error(m)
	}
	for at := range 32 {
		isStays(t, d, at, 0)
	}
	fine(t, d.Fence())
	isWaits(t, d)
	isStays(t, d, 8, 2)
	isStays(t, d, 9, 3)
	if m := d.State(); m != (api.Media{Lines: 4}) {
		t.Error(m)
	}
}

func TestFenceLetsStayWhatWasFlushed(t *testing.T) {
	d := made(t, 3)
	fine(t, d.Store(0, 1), d.Store(8, 2), d.Store(16, 3), d.Flush(0), d.Flush(1), d.Store(0, 4), d.Fence())
	for i, want := range []uint64{1, 2, 0} {
		isStays(t, d, 8*i, want)
	}
	for i, want := range []uint64{4, 2, 3} {
		isLoad(t, d, 8*i, want)
	}
	if m := d.State(); m != (api.Media{Lines: 3, Dirty: 2}) {
		t.Error(m)
	}
	before := d.Copy()
	fine(t, d.Fence())
	isSame(t, d, before, true)
}

func TestEvictWaitsNoMore(t *testing.T) {
	d := made(t, 3)
	fine(t, d.Store(0, 1), d.Store(8, 2), d.Flush(0), d.Flush(1), d.Flush(2), d.Store(8, 5), d.Store(15, 6), d.Evict(1))
	isWaits(t, d, 0, 2)
	isStays(t, d, 8, 5)
	isStays(t, d, 15, 6)
	isStays(t, d, 0, 0)
	fine(t, d.Fence())
	isStays(t, d, 8, 5)
	isStays(t, d, 0, 1)
	fine(t, d.Store(16, 7), d.Evict(2), d.Store(16, 8), d.Crash())
	isLoad(t, d, 16, 7)
	isLoad(t, d, 15, 6)
	isLoad(t, d, 0, 1)
}

// TestCrashWithAllMarks lets four lines wait, out of order, and crashes with each list of up to six marks.
func TestCrashWithAllMarks(t *testing.T) {
	order := []int{3, 0, 4, 1}
	for many := range 7 {
		for set := range 1 << many {
			d := made(t, 5)
			for line := range 5 {
				fine(t, d.Store(8*line+line, 10+uint64(line)), d.Evict(line), d.Store(8*line+line, 20+uint64(line)), d.Store(8*line+7, 40))
			}
			for _, line := range order {
				fine(t, d.Flush(line))
			}
			fine(t, d.Store(3*8+3, 33))
			marks := make([]bool, many)
			for k := range marks {
				marks[k] = set>>k&1 == 1
			}
			given := slices.Clone(marks)
			fine(t, d.Crash(marks...))
			if !slices.Equal(marks, given) {
				t.Error("marks changed")
			}
			for line := range 5 {
				k := slices.Index(order, line)
				want, behind := 10+uint64(line), uint64(0)
				if k >= 0 && k < many && marks[k] {
					want, behind = 20+uint64(line), 40
				}
				isLoad(t, d, 9*line, want)
				isStays(t, d, 9*line, want)
				isLoad(t, d, 8*line+7, behind)
				isStays(t, d, 8*line+7, behind)
			}
			if m := d.State(); m != (api.Media{Lines: 5}) {
				t.Error(m)
			}
			once := d.Copy()
			fine(t, d.Crash(marks...), d.Crash(), d.Crash(true, true))
			isSame(t, d, once, true)
		}
	}
}

func TestCrashOfWhatIsFencedChangesNothing(t *testing.T) {
	d := made(t, 20)
	for at := range 160 {
		fine(t, d.Store(at, uint64(at+1)))
	}
	for line := range 20 {
		fine(t, d.Flush(line))
	}
	fine(t, d.Fence())
	before := d.Copy()
	for _, marks := range [][]bool{nil, {}, {true}, {false}, make([]bool, 3000)} {
		fine(t, d.Crash(marks...))
		isSame(t, d, before, true)
	}
	for at := range 160 {
		isLoad(t, d, at, uint64(at+1))
	}
}

func TestStateCountsDirtyLines(t *testing.T) {
	d := made(t, 1024)
	for line := range 1024 {
		fine(t, d.Store(8*line+line%8, 1), d.Store(8*line+(line+3)%8, 2), d.Flush(line))
	}
	if m := d.State(); m != (api.Media{Lines: 1024, Waiting: 1024, Dirty: 1024}) {
		t.Error(m)
	}
	fine(t, d.Evict(1023), d.Store(5, 0), d.Store(0, 0), d.Store(3, 0))
	if m := d.State(); m != (api.Media{Lines: 1024, Waiting: 1023, Dirty: 1022}) {
		t.Error(m)
	}
	fine(t, d.Fence())
	if m := d.State(); m != (api.Media{Lines: 1024, Dirty: 1}) {
		t.Error(m)
	}
}

func TestWaitsAsTheyWere(t *testing.T) {
	d := made(t, 8)
	empty := d.Waits()
	fine(t, d.Flush(5), d.Flush(2), d.Flush(7), d.Flush(0))
	all := d.Waits()
	fine(t, d.Flush(5), d.Evict(2), d.Flush(1))
	now := d.Waits()
	fine(t, d.Fence(), d.Flush(4), d.Flush(6), d.Flush(3), d.Flush(2))
	for range 2 {
		if l := slices.Collect(empty); len(l) != 0 {
			t.Error(l)
		}
		if l := slices.Collect(all); !slices.Equal(l, []int{5, 2, 7, 0}) {
			t.Error(l)
		}
		if l := slices.Collect(now); !slices.Equal(l, []int{7, 0, 5, 1}) {
			t.Error(l)
		}
	}
}

func TestWaitsLeftAndGoneOverAgain(t *testing.T) {
	d := made(t, 8)
	want := []int{5, 2, 7, 0}
	for _, line := range want {
		fine(t, d.Flush(line))
	}
	run := d.Waits()
	for stay := range 4 {
		var asked []int
		run(func(line int) bool {
			asked = append(asked, line)
			return len(asked) <= stay
		})
		if !slices.Equal(asked, want[:stay+1]) {
			t.Error(stay, asked)
		}
	}
	var outer []int
	for line := range run {
		outer = append(outer, line)
		if l := slices.Collect(run); !slices.Equal(l, want) {
			t.Error(l)
		}
		fine(t, d.Evict(line), d.Flush(1))
	}
	if !slices.Equal(outer, want) {
		t.Error(outer)
	}
	isWaits(t, d, 1)
}

// TestCopyGoesOnApart does things to one of two, either one, and asks that the other one stays as it was.
func TestCopyGoesOnApart(t *testing.T) {
	acts := []func(d *Device) api.Errno{
		func(d *Device) api.Errno { return d.Store(8, 99) },
		func(d *Device) api.Errno { return d.Flush(0) },
		func(d *Device) api.Errno { return d.Flush(3) },
		func(d *Device) api.Errno { return d.Evict(2) },
		func(d *Device) api.Errno { return d.Fence() },
		func(d *Device) api.Errno { return d.Crash(false, true) },
		func(d *Device) api.Errno {
			_, e := d.Swap(9, 0, 5)
			return e
		},
	}
	for i, act := range acts {
		for _, first := range []bool{true, false} {
			d := made(t, 4)
			fine(t, d.Store(8, 1), d.Store(16, 2), d.Flush(2), d.Flush(1), d.Flush(0), d.Evict(0), d.Store(17, 3))
			c, still := d.Copy(), d.Copy()
			isSame(t, d, c, true)
			if first {
				d, c = c, d
			}
			fine(t, act(d))
			isSame(t, c, still, true)
			if Same(d, still) {
				t.Error(i, "nothing changed")
			}
			for line := range 4 { // room behind what waits is not shared either
				fine(t, d.Flush(line))
			}
			isSame(t, c, still, true)
			isWaits(t, c, 2, 1)
			fine(t, c.Flush(3), c.Flush(0))
			isWaits(t, c, 2, 1, 3, 0)
			isWaits(t, d, 0, 1, 2, 3)
		}
	}
}

func TestSameAsksAll(t *testing.T) {
	rows := []struct {
		a, b func(d *Device)
		same bool
	}{
		{func(d *Device) {}, func(d *Device) {}, true},
		{func(d *Device) { d.Store(3, 1) }, func(d *Device) {}, false},
		{func(d *Device) { d.Store(3, 1) }, func(d *Device) { d.Store(4, 1) }, false},
		{func(d *Device) { d.Store(3, 1) }, func(d *Device) { d.Swap(3, 0, 1) }, true},
		{func(d *Device) { d.Store(15, 1); d.Evict(1); d.Store(15, 0) }, func(d *Device) {}, false},
		{func(d *Device) { d.Store(15, 1); d.Evict(1) }, func(d *Device) { d.Store(15, 1) }, false},
		{func(d *Device) { d.Store(15, 1); d.Evict(1) }, func(d *Device) { d.Store(15, 1); d.Flush(1); d.Fence() }, true},
		{func(d *Device) { d.Flush(0) }, func(d *Device) {}, false},
		{func(d *Device) { d.Flush(0) }, func(d *Device) { d.Flush(1) }, false},
		{func(d *Device) { d.Flush(0); d.Flush(1) }, func(d *Device) { d.Flush(1); d.Flush(0) }, false},
		{func(d *Device) { d.Flush(0); d.Flush(1) }, func(d *Device) { d.Flush(1); d.Flush(0); d.Flush(1) }, true},
		{func(d *Device) { d.Flush(0); d.Fence() }, func(d *Device) { d.Flush(0); d.Crash() }, true},
		// what waits of a line is another one
		{func(d *Device) { d.Store(0, 1); d.Flush(0); d.Store(0, 2) }, func(d *Device) { d.Store(0, 2); d.Flush(0) }, false},
	}
	for i, r := range rows {
		a, b := made(t, 2), made(t, 2)
		r.a(a)
		r.b(b)
		if Same(a, b) != r.same || Same(b, a) != r.same {
			t.Error(i)
		}
	}
	isSame(t, made(t, 2), made(t, 3), false)
	isSame(t, made(t, 1), made(t, 1024), false)
	d := made(t, 2)
	fine(t, d.Store(1, 1))
	isSame(t, d, d, true)
}

// TestAgainstSlow does the same at random to a device and to the slow one.
func TestAgainstSlow(t *testing.T) {
	for seed := range 60 {
		s := sampler(seed)
		lines := 1 + s.below(6)
		d, w := made(t, lines), slowNew(lines)
		var kept *Device
		var keptSlow *slow
		for range 300 {
			step(t, &s, d, w)
			w.like(t, d)
			switch s.below(25) {
			case 0:
				kept, keptSlow = d.Copy(), w.copy()
			case 1:
				if kept != nil {
					keptSlow.like(t, kept)
					d, w, kept, keptSlow = kept, keptSlow, d, w
				}
			}
		}
	}
}

func step(t *testing.T, s *sampler, d *Device, w *slow) {
	at, line := s.below(8*w.lines), s.below(w.lines)
	switch x := s.next() >> 7 % 4; s.below(12) {
	case 0, 1, 2, 3:
		fine(t, d.Store(at, x))
		w.seen[at] = x
	case 4:
		was, e := d.Swap(at, x, x+1)
		if was != (w.seen[at] == x) || e != api.OK {
			t.Fatal(at, x, was, e)
		}
		if was {
			w.seen[at] = x + 1
		}
	case 5, 6, 7, 8:
		fine(t, d.Flush(line))
		w.flush(line)
	case 9:
		fine(t, d.Fence())
		w.fence()
	case 10:
		fine(t, d.Evict(line))
		w.evict(line)
	case 11:
		marks := make([]bool, s.below(w.lines+2))
		for k := range marks {
			marks[k] = s.below(2) == 0
		}
		fine(t, d.Crash(marks...))
		w.crash(marks...)
	}
}

// TestLinesCrashWhole stores the same number in all words of a line: behind a crash all are of one time, and none is older than what stayed surely.
func TestLinesCrashWhole(t *testing.T) {
	s := sampler(5)
	for range 400 {
		lines := 1 + s.below(4)
		d := made(t, lines)
		allowed := make([]map[uint64]bool, lines) // what each line may be
		for line := range lines {
			allowed[line] = map[uint64]bool{0: true}
		}
		for now := range uint64(30) {
			line := s.below(lines)
			switch s.below(3) {
			case 0:
				for k := range 8 {
					fine(t, d.Store(8*line+k, now))
				}
			case 1:
				w, _ := d.Load(8 * line)
				allowed[line][w] = true
				fine(t, d.Flush(line))
			case 2:
				w, _ := d.Load(8 * line)
				allowed[line] = map[uint64]bool{w: true}
				fine(t, d.Evict(line))
			}
		}
		marks := make([]bool, lines)
		for k := range marks {
			marks[k] = s.below(2) == 0
		}
		fine(t, d.Crash(marks...))
		seen := loads(t, d)
		for line := range lines {
			l := seen[8*line : 8*line+8]
			if !allowed[line][l[0]] || len(slices.Compact(slices.Clone(l))) != 1 {
				t.Fatal(line, l, allowed[line])
			}
		}
	}
}

// TestStoredFlushedFenced asks the promise of a word that surely stays, whatever is done to other lines.
func TestStoredFlushedFenced(t *testing.T) {
	s := sampler(8)
	for at := range 32 {
		d := made(t, 4)
		fine(t, d.Store(at, 7), d.Flush(at/8), d.Fence())
		for range 200 {
			other := s.below(32)
			if other != at {
				fine(t, d.Store(other, s.next()))
			}
			line := s.below(4)
			switch s.below(5) {
			case 0:
				fine(t, d.Evict(line))
			case 1:
				fine(t, d.Flush(line))
			case 2:
				fine(t, d.Crash(s.below(2) == 0, s.below(2) == 0))
			case 3:
				fine(t, d.Fence())
			}
			isLoad(t, d, at, 7)
			isStays(t, d, at, 7)
		}
	}
}
