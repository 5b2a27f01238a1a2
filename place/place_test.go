package place

import (
	"iter"
	"math"
	"slices"
	"testing"

	"waterline/api"
)

// last is the greatest address.
const last = 8191

func at(line, word int) api.Place { return api.Place{Line: line, Word: word} }

// slowAddress and slowAt reckon by whole numbers what the package does by a line and a word apart.
func slowAddress(p api.Place) int { return p.Line*8 + p.Word }

func slowAt(address int) api.Place { return at(address/8, address%8) }

// sampler makes the same numbers in each run.
type sampler uint64

func (s *sampler) next() uint64 {
	*s = *s*6364136223846793005 + 1442695040888963407
	return uint64(*s ^ *s>>29)
}

func (s *sampler) below(n int) int { return int(s.next() >> 1 % uint64(n)) }

func badPlaces() []api.Place {
	l := []api.Place{at(1024, 0), at(-1, 0), at(-1, 8), at(0, 8), at(0, -1), at(1, -1), at(1023, 8), at(1024, -1), at(1024, 7), at(-1, -1), at(1024, 8)}
	for _, n := range []int{math.MinInt, math.MinInt + 1, math.MinInt64 / 8, -1 << 53, -8192, -8, 8192, 1 << 32, 1 << 53, 1<<53 + 1, 1 << 61, math.MaxInt - 1, math.MaxInt} {
		l = append(l, at(n, 0), at(n, 3), at(0, n), at(5, n), at(n, n), at(n, -n))
	}
	return l
}

func hugeNumbers() []int {
	return []int{8193, 16383, 16384, 1 << 31, 1 << 32, 1<<53 - 1, 1 << 53, 1<<53 + 1, 1 << 61, 1 << 62, math.MaxInt - 8191, math.MaxInt - 7, math.MaxInt - 1, math.MaxInt}
}

func TestAddressAndAtOfAll(t *testing.T) {
	for line := range 1024 {
		for word := range 8 {
			p, address := at(line, word), 8*line+word
			if n, e := Address(p); n != address || e != api.OK {
				t.Fatal(p, n, e)
			}
			if q, e := At(address); q != p || e != api.OK {
				t.Fatal(address, q, e)
			}
		}
	}
}

func TestAddressAndAtRefused(t *testing.T) {
	for _, p := range badPlaces() {
		if n, e := Address(p); n != 0 || e != api.ErrArg {
			t.Error(p, n, e)
		}
	}
	for _, n := range append(hugeNumbers(), 8192, -1, -8, -8191, -8192, math.MinInt) {
		for _, address := range []int{n, -n} {
			if address >= 0 && address <= last {
				continue
			}
			if p, e := At(address); p != (api.Place{}) || e != api.ErrRange {
				t.Error(address, p, e)
			}
		}
	}
}

func TestMoveAnswers(t *testing.T) {
	rows := []struct {
		p  api.Place
		by int
		to api.Place
		e  api.Errno
	}{
		{at(2, 3), -20, api.Place{}, api.ErrRange},
		{at(2, 3), -19, at(0, 0), api.OK},
		{at(2, 3), 0, at(2, 3), api.OK},
		{at(2, 3), 4, at(2, 7), api.OK},
		{at(2, 3), 5, at(3, 0), api.OK},
		{at(2, 3), -3, at(2, 0), api.OK},
		{at(2, 3), -4, at(1, 7), api.OK},
		{at(2, 7), 15, at(4, 6), api.OK},
		{at(2, 0), -15, at(0, 1), api.OK},
		{at(1023, 7), 1, api.Place{}, api.ErrRange},
		{at(1023, 7), 0, at(1023, 7), api.OK},
		{at(1023, 7), -8191, at(0, 0), api.OK},
		{at(1023, 7), -8192, api.Place{}, api.ErrRange},
		{at(0, 0), 8191, at(1023, 7), api.OK},
		{at(0, 0), 8192, api.Place{}, api.ErrRange},
		{at(0, 0), -1, api.Place{}, api.ErrRange},
		{at(0, 7), -8, api.Place{}, api.ErrRange},
		{at(1023, 0), 8, api.Place{}, api.ErrRange},
	}
	for _, r := range rows {
		if to, e := Move(r.p, r.by); to != r.to || e != r.e {
			t.Errorf("Move(%v, %d) = %v, %d", r.p, r.by, to, e)
		}
	}
}

// edges are addresses around the ends of lines, and of all lines.
func edges() []int {
	return []int{0, 1, 6, 7, 8, 9, 15, 16, 17, 18, 19, 4095, 4096, 8182, 8183, 8184, 8185, 8190, 8191}
}

// TestMoveAndDistanceOfAll goes from the edges to all that is there, and beyond it.
func TestMoveAndDistanceOfAll(t *testing.T) {
	for _, a := range edges() {
		from := slowAt(a)
		for b := -9000; b < 18000; b++ {
			to, e := Move(from, b-a)
			if b < 0 || b > last {
				if to != (api.Place{}) || e != api.ErrRange {
					t.Fatalf("Move(%v, %d) = %v, %d", from, b-a, to, e)
				}
				continue
			}
			if to != slowAt(b) || e != api.OK {
				t.Fatalf("Move(%v, %d) = %v, %d", from, b-a, to, e)
			}
			if d, e := Distance(from, to); d != b-a || e != api.OK {
				t.Fatalf("Distance(%v, %v) = %d, %d", from, to, d, e)
			}
			if d, e := Distance(to, from); d != a-b || e != api.OK {
				t.Fatalf("Distance(%v, %v) = %d, %d", to, from, d, e)
			}
		}
	}
}

func TestMoveRefused(t *testing.T) {
	for _, p := range badPlaces() {
		for _, by := range []int{0, 1, -1, 8, -8, 8191, 8192, math.MaxInt, math.MinInt, -p.Line * 8, -p.Word} {
			if to, e := Move(p, by); to != (api.Place{}) || e != api.ErrArg {
				t.Errorf("Move(%v, %d) = %v, %d", p, by, to, e)
			}
		}
	}
	for _, address := range edges() {
		p := slowAt(address)
		for _, n := range append(hugeNumbers(), 8192, math.MinInt) {
			for _, by := range []int{n, -n} {
				if to, e := Move(p, by); to != (api.Place{}) || e != api.ErrRange {
					t.Errorf("Move(%v, %d) = %v, %d", p, by, to, e)
				}
			}
		}
	}
}

func TestDistanceAnswers(t *testing.T) {
	rows := []struct {
		a, b api.Place
		d    int
	}{
		{at(2, 3), at(0, 0), -19},
		{at(0, 0), at(2, 3), 19},
		{at(2, 3), at(2, 3), 0},
		{at(2, 3), at(2, 1), -2},
		{at(2, 7), at(3, 0), 1},
		{at(3, 0), at(2, 7), -1},
		{at(0, 7), at(1, 0), 1},
		{at(0, 0), at(1023, 7), 8191},
		{at(1023, 7), at(0, 0), -8191},
	}
	for _, r := range rows {
		if d, e := Distance(r.a, r.b); d != r.d || e != api.OK {
			t.Errorf("Distance(%v, %v) = %d, %d", r.a, r.b, d, e)
		}
	}
	for _, p := range badPlaces() {
		for _, pair := range [][2]api.Place{{p, at(0, 0)}, {at(0, 0), p}, {p, p}, {at(1023, 7), p}, {p, at(1, -1)}} {
			if d, e := Distance(pair[0], pair[1]); d != 0 || e != api.ErrArg {
				t.Errorf("Distance%v = %d, %d", pair, d, e)
			}
		}
	}
}

func TestThereAndBack(t *testing.T) {
	s := sampler(11)
	for range 20000 {
		a, b, c := s.below(last+1), s.below(last+1), s.below(last+1)
		p := slowAt(a)
		q, e := Move(p, b-a)
		if e != api.OK {
			t.Fatal(p, b-a, e)
		}
		if back, e := Move(q, a-b); back != p || e != api.OK {
			t.Fatal(p, q, back, e)
		}
		if d, _ := Distance(p, q); d != b-a {
			t.Fatal(p, q, d)
		}
		twice, _ := Move(q, c-b)
		if once, e := Move(p, b-a+c-b); once != twice || e != api.OK {
			t.Fatal(p, once, twice, e)
		}
		address, _ := Address(q)
		if back, e := At(address); back != q || e != api.OK {
			t.Fatal(q, address, back, e)
		}
	}
}

// slowRun and slowLines count by addresses.
func slowRun(p api.Place, many int) []api.Place {
	var l []api.Place
	for a := slowAddress(p); a <= last && len(l) < many; a++ {
		l = append(l, slowAt(a))
	}
	return l
}

func slowLines(p api.Place, many int) []int {
	var l []int
	for _, q := range slowRun(p, many) {
		if !slices.Contains(l, q.Line) {
			l = append(l, q.Line)
		}
	}
	return l
}

// gathered gives up where a run does not end.
func gathered(t *testing.T, run iter.Seq[api.Place]) []api.Place {
	t.Helper()
	var l []api.Place
	for p := range run {
		if l = append(l, p); len(l) > last+1 {
			t.Fatal("more places than there are")
		}
	}
	return l
}

func TestRunAndLinesAnswers(t *testing.T) {
	if l := gathered(t, Run(at(0, 6), 4)); !slices.Equal(l, []api.Place{at(0, 6), at(0, 7), at(1, 0), at(1, 1)}) {
		t.Error(l)
	}
	if l, e := Lines(at(0, 6), 4); !slices.Equal(l, []int{0, 1}) || e != api.OK {
		t.Error(l, e)
	}
	if l, e := Lines(at(0, 0), 0); len(l) != 0 || e != api.OK {
		t.Error(l, e)
	}
	if l, e := Lines(at(1023, 7), 1); !slices.Equal(l, []int{1023}) || e != api.OK {
		t.Error(l, e)
	}
	if l, e := Lines(at(1023, 7), 0); len(l) != 0 || e != api.OK {
		t.Error(l, e)
	}
	all, e := Lines(at(0, 0), 8192)
	if len(all) != 1024 || all[0] != 0 || all[1023] != 1023 || !slices.IsSorted(all) || e != api.OK {
		t.Error(len(all), e)
	}
}

func TestRunAndLinesAtEdges(t *testing.T) {
	for _, address := range edges() {
		p, room := slowAt(address), last+1-address
		for _, many := range []int{-1, 0, 1, 2, 7, 8, 9, 16, 17, 40, room - 1, room, room + 1, room + 7, room + 8, 8191, 8192, 8193} {
			if l := gathered(t, Run(p, many)); !slices.Equal(l, slowRun(p, many)) {
				t.Errorf("Run(%v, %d): %d places", p, many, len(l))
			}
			l, e := Lines(p, many)
			switch {
			case many < 0:
				if l != nil || e != api.ErrArg {
					t.Errorf("Lines(%v, %d) = %v, %d", p, many, l, e)
				}
			case many > room:
				if l != nil || e != api.ErrRange {
					t.Errorf("Lines(%v, %d): %d lines, %d", p, many, len(l), e)
				}
			default:
				if !slices.Equal(l, slowLines(p, many)) || e != api.OK {
					t.Errorf("Lines(%v, %d) = %v, %d", p, many, l, e)
				}
			}
		}
	}
}

func TestRunAndLinesOfWrongNumbers(t *testing.T) {
	for _, p := range badPlaces() {
		for _, many := range []int{math.MinInt, -1, 0, 1, 9, 8192, 8193, math.MaxInt} {
			if l := gathered(t, Run(p, many)); len(l) != 0 {
				t.Errorf("Run(%v, %d): %v", p, many, l)
			}
			if l, e := Lines(p, many); l != nil || e != api.ErrArg {
				t.Errorf("Lines(%v, %d) = %v, %d", p, many, l, e)
			}
		}
	}
	for _, address := range edges() {
		p := slowAt(address)
		for _, many := range hugeNumbers() {
			if l := gathered(t, Run(p, many)); !slices.Equal(l, slowRun(p, many)) {
				t.Errorf("Run(%v, %d): %d places", p, many, len(l))
			}
			if l := gathered(t, Run(p, -many)); len(l) != 0 {
				t.Errorf("Run(%v, %d): %v", p, -many, l)
			}
			if l, e := Lines(p, many); l != nil || e != api.ErrRange {
				t.Errorf("Lines(%v, %d): %d lines, %d", p, many, len(l), e)
			}
			if l, e := Lines(p, -many); l != nil || e != api.ErrArg {
				t.Errorf("Lines(%v, %d): %v, %d", p, -many, l, e)
			}
		}
		if l, e := Lines(p, math.MinInt); l != nil || e != api.ErrArg {
			t.Error(l, e)
		}
	}
}

func TestRunsOfParts(t *testing.T) {
	for _, address := range []int{0, 5, 7, 8, 100, 8150} {
		p := slowAt(address)
		whole := gathered(t, Run(p, 41))
		for first := range 41 {
			behind, _ := Move(p, first)
			both := append(gathered(t, Run(p, first)), gathered(t, Run(behind, 41-first))...)
			if !slices.Equal(both, whole) {
				t.Errorf("Run(%v, 41) parted at %d: %v", p, first, both)
			}
			l, _ := Lines(p, first)
			var want []int
			for q := range Run(p, first) {
				want = append(want, q.Line)
			}
			if !slices.Equal(l, slices.Compact(want)) {
				t.Errorf("Lines(%v, %d) = %v", p, first, l)
			}
		}
	}
}

func TestRunLeftAndGoneOverAgain(t *testing.T) {
	run := Run(at(0, 6), 4)
	want := slowRun(at(0, 6), 4)
	for p := range run {
		if p == at(1, 0) {
			break
		}
	}
	for stay := range 4 {
		asked := 0
		run(func(api.Place) bool {
			asked++
			return asked <= stay
		})
		if asked != stay+1 {
			t.Errorf("asked %d times, told to stop at %d", asked, stay+1)
		}
	}
	if l := gathered(t, run); !slices.Equal(l, want) {
		t.Error(l)
	}
	var outer []api.Place
	for p := range run {
		outer = append(outer, p)
		if l := gathered(t, run); !slices.Equal(l, want) {
			t.Error(p, l)
		}
	}
	if !slices.Equal(outer, want) {
		t.Error(outer)
	}
}

func TestLinesAreNewMemory(t *testing.T) {
	one, _ := Lines(at(3, 5), 20)
	other, _ := Lines(at(3, 5), 20)
	one[0] = 99
	_ = append(one, 77)
	if again, _ := Lines(at(3, 5), 20); !slices.Equal(other, []int{3, 4, 5, 6}) || !slices.Equal(again, other) {
		t.Error(other, again)
	}
}
