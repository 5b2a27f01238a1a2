package word

import (
	"bytes"
	"math"
	"slices"
	"testing"

	"waterline/api"
)

// sampler makes the same numbers in each run.
type sampler uint64

func (s *sampler) next() uint64 {
	*s = *s*6364136223846793005 + 1442695040888963407
	return uint64(*s ^ *s>>29)
}

func (s *sampler) below(n int) int { return int(s.next() >> 1 % uint64(n)) }

func (s *sampler) field() api.Field {
	from := s.below(64)
	return api.Field{From: from, Wide: 1 + s.below(64-from)}
}

func (s *sampler) bytes(many int) []byte {
	b := make([]byte, many)
	for i := range b {
		b[i] = byte(s.next() >> 20)
	}
	return b
}

// slowMayBe, slowGet and slowPut go bit by bit over what the package does by masks.
func slowMayBe(f api.Field) bool {
	return f.From >= 0 && f.From <= 63 && f.Wide >= 1 && f.Wide <= 64 && f.From+f.Wide <= 64
}

func slowGet(w uint64, f api.Field) uint64 {
	var n uint64
	for i := 0; i < f.Wide; i++ {
		n |= (w >> (f.From + i) & 1) << i
	}
	return n
}

func slowPut(w uint64, f api.Field, n uint64) uint64 {
	for i := 0; i < f.Wide; i++ {
		bit := uint64(1) << (f.From + i)
		w &^= bit
		if n>>i&1 == 1 {
			w |= bit
		}
	}
	return w
}

func slowHolds(f api.Field, n uint64) bool { return f.Wide == 64 || n>>f.Wide == 0 }

func badFields() []api.Field {
	return []api.Field{
		{}, {From: 0, Wide: 0}, {From: 0, Wide: 65}, {From: 64, Wide: 1}, {From: 63, Wide: 2}, {From: 1, Wide: 64},
		{From: -1, Wide: 1}, {From: 0, Wide: -1}, {From: -1, Wide: 64}, {From: 65, Wide: -1}, {From: 64, Wide: 0},
		{From: math.MaxInt, Wide: 1}, {From: 0, Wide: math.MaxInt}, {From: math.MaxInt, Wide: math.MaxInt},
		{From: math.MinInt, Wide: 1}, {From: 0, Wide: math.MinInt}, {From: math.MinInt, Wide: math.MinInt},
		{From: 1, Wide: math.MaxInt}, {From: math.MinInt, Wide: math.MaxInt}, {From: math.MaxInt, Wide: math.MinInt},
		{From: 1 << 32, Wide: 1}, {From: 0, Wide: 1<<32 + 1},
	}
}

func TestGetAnswers(t *testing.T) {
	rows := []struct {
		w uint64
		f api.Field
		n uint64
	}{
		{0x1234, api.Field{From: 4, Wide: 8}, 0x23},
		{math.MaxUint64, api.Field{From: 0, Wide: 64}, math.MaxUint64},
		{0x8000000000000001, api.Field{From: 0, Wide: 64}, 0x8000000000000001},
		{0x8000000000000000, api.Field{From: 63, Wide: 1}, 1},
		{0x7fffffffffffffff, api.Field{From: 63, Wide: 1}, 0},
		{5, api.Field{From: 0, Wide: 1}, 1},
		{0xfedcba9876543210, api.Field{From: 32, Wide: 32}, 0xfedcba98},
		{0xfedcba9876543210, api.Field{From: 1, Wide: 63}, 0x7f6e5d4c3b2a1908},
	}
	for _, r := range rows {
		if n, e := Get(r.w, r.f); n != r.n || e != api.OK {
			t.Errorf("Get(%#x, %v) = %#x, %d", r.w, r.f, n, e)
		}
	}
}

func TestPutAnswers(t *testing.T) {
	rows := []struct {
		w    uint64
		f    api.Field
		n    uint64
		then uint64
		e    api.Errno
	}{
		{0x1234, api.Field{From: 4, Wide: 8}, 0xff, 0x1ff4, api.OK},
		{0, api.Field{From: 4, Wide: 8}, 255, 0xff0, api.OK},
		{0, api.Field{From: 4, Wide: 8}, 256, 0, api.ErrArg},
		{math.MaxUint64, api.Field{From: 4, Wide: 8}, 0, 0xfffffffffffff00f, api.OK},
		{7, api.Field{From: 0, Wide: 64}, math.MaxUint64, math.MaxUint64, api.OK},
		{math.MaxUint64, api.Field{From: 0, Wide: 64}, 0, 0, api.OK},
		{1, api.Field{From: 63, Wide: 1}, 1, 0x8000000000000001, api.OK},
		{1, api.Field{From: 63, Wide: 1}, 2, 0, api.ErrArg},
		{1, api.Field{From: 1, Wide: 63}, 1 << 63, 0, api.ErrArg},
		{1, api.Field{From: 1, Wide: 63}, 1<<63 - 1, math.MaxUint64, api.OK},
		{9, api.Field{From: 0, Wide: 1}, math.MaxUint64, 0, api.ErrArg},
	}
	for _, r := range rows {
		if w, e := Put(r.w, r.f, r.n); w != r.then || e != r.e {
			t.Errorf("Put(%#x, %v, %#x) = %#x, %d", r.w, r.f, r.n, w, e)
		}
	}
}

func TestGetAndPutRefuseBadFields(t *testing.T) {
	for _, f := range badFields() {
		if n, e := Get(math.MaxUint64, f); n != 0 || e != api.ErrArg {
			t.Errorf("Get(%v) = %#x, %d", f, n, e)
		}
		if w, e := Put(math.MaxUint64, f, 0); w != 0 || e != api.ErrArg {
			t.Errorf("Put(%v, 0) = %#x, %d", f, w, e)
		}
		if w, e := Put(math.MaxUint64, f, math.MaxUint64); w != 0 || e != api.ErrArg {
			t.Errorf("Put(%v, all) = %#x, %d", f, w, e)
		}
	}
}

// TestAllFields holds each field around the bounds against what is done bit by bit.
func TestAllFields(t *testing.T) {
	s := sampler(1)
	for from := -2; from <= 66; from++ {
		for wide := -2; wide <= 67; wide++ {
			f := api.Field{From: from, Wide: wide}
			w := s.next()
			for _, n := range []uint64{0, 1, s.next(), s.next() >> (64 - min(max(wide, 0), 64)), math.MaxUint64} {
				checkField(t, w, f, n)
			}
		}
	}
}

func checkField(t *testing.T, w uint64, f api.Field, n uint64) {
	t.Helper()
	var got, then uint64
	readable, storable := api.ErrArg, api.ErrArg
	if slowMayBe(f) {
		got, readable = slowGet(w, f), api.OK
		if slowHolds(f, n) {
			then, storable = slowPut(w, f, n), api.OK
		}
	}
	if x, e := Get(w, f); x != got || e != readable {
		t.Fatalf("Get(%#x, %v) = %#x, %d, not %#x, %d", w, f, x, e, got, readable)
	}
	if x, e := Put(w, f, n); x != then || e != storable {
		t.Fatalf("Put(%#x, %v, %#x) = %#x, %d, not %#x, %d", w, f, n, x, e, then, storable)
	}
}

// TestHoldsAtEachWidth asks of each width the greatest number that it holds, and one more.
func TestHoldsAtEachWidth(t *testing.T) {
	for wide := 1; wide <= 64; wide++ {
		f := api.Field{From: 64 - wide, Wide: wide}
		greatest := uint64(math.MaxUint64) >> (64 - wide)
		if w, e := Put(0, f, greatest); w != greatest<<f.From || e != api.OK {
			t.Errorf("Put(0, %v, %#x) = %#x, %d", f, greatest, w, e)
		}
		if wide == 64 {
			continue
		}
		if w, e := Put(0, f, greatest+1); w != 0 || e != api.ErrArg {
			t.Errorf("Put(0, %v, %#x) = %#x, %d", f, greatest+1, w, e)
		}
	}
}

func TestGetOfPutAndPutOfGet(t *testing.T) {
	s := sampler(2)
	for range 2000 {
		w, f := s.next(), s.field()
		n, last := s.next()>>(64-f.Wide), s.next()>>(64-f.Wide)
		put, _ := Put(w, f, n)
		if x, e := Get(put, f); x != n || e != api.OK {
			t.Fatalf("Get of Put(%#x, %v, %#x) = %#x, %d", w, f, n, x, e)
		}
		has, _ := Get(w, f)
		if x, e := Put(w, f, has); x != w || e != api.OK {
			t.Fatalf("Put of Get(%#x, %v) = %#x, %d", w, f, x, e)
		}
		twice, _ := Put(put, f, last)
		if once, _ := Put(w, f, last); twice != once {
			t.Fatalf("%v put twice: %#x, not %#x", f, twice, once)
		}
		if x, _ := Get(twice, f); x != last {
			t.Fatalf("%v put twice has %#x, not %#x", f, x, last)
		}
	}
}

func TestPutsApartInAnyOrder(t *testing.T) {
	s := sampler(3)
	apart := 0
	for range 4000 {
		w, f, g := s.next(), s.field(), s.field()
		if !Apart(f, g) {
			continue
		}
		apart++
		n, m := s.next()>>(64-f.Wide), s.next()>>(64-g.Wide)
		one, _ := Put(w, f, n)
		one, _ = Put(one, g, m)
		other, _ := Put(w, g, m)
		other, _ = Put(other, f, n)
		if one != other {
			t.Fatalf("%v, %v: %#x, %#x", f, g, one, other)
		}
	}
	if apart < 100 {
		t.Error("too few fields were apart:", apart)
	}
}

func TestWordsAnswers(t *testing.T) {
	rows := []struct {
		b []byte
		l []uint64
	}{
		{nil, nil},
		{[]byte{}, nil},
		{[]byte{0}, []uint64{0}},
		{[]byte{0xff}, []uint64{0xff}},
		{[]byte{1, 2, 3, 4, 5, 6, 7}, []uint64{0x07060504030201}},
		{[]byte{1, 2, 3, 4, 5, 6, 7, 8}, []uint64{0x0807060504030201}},
		{[]byte{1, 2, 3, 4, 5, 6, 7, 8, 9}, []uint64{0x0807060504030201, 9}},
		{[]byte{0, 0, 0, 0, 0, 0, 0, 0x80}, []uint64{0x8000000000000000}},
		{make([]byte, 17), []uint64{0, 0, 0}},
	}
	for _, r := range rows {
		if l, e := Words(r.b); !slices.Equal(l, r.l) || e != api.OK {
			t.Errorf("Words(% x) = %#x, %d", r.b, l, e)
		}
	}
}

func TestWordsAtTheBound(t *testing.T) {
	s := sampler(4)
	b := s.bytes(4096)
	l, e := Words(b)
	if len(l) != 512 || e != api.OK {
		t.Fatal(len(l), e)
	}
	for i, x := range b {
		if byte(l[i/8]>>(i%8*8)) != x {
			t.Fatal("byte", i)
		}
	}
	for _, many := range []int{4097, 4104, 70000} {
		if l, e := Words(make([]byte, many)); len(l) != 0 || e != api.ErrLong {
			t.Error(many, len(l), e)
		}
	}
}

func TestBytesAnswers(t *testing.T) {
	nine := []uint64{0x0807060504030201, 9}
	rows := []struct {
		l    []uint64
		many int
		b    []byte
		e    api.Errno
	}{
		{nil, 0, nil, api.OK},
		{[]uint64{}, 0, nil, api.OK},
		{nine, 9, []byte{1, 2, 3, 4, 5, 6, 7, 8, 9}, api.OK},
		{nine, 10, []byte{1, 2, 3, 4, 5, 6, 7, 8, 9, 0}, api.OK},
		{nine, 16, []byte{1, 2, 3, 4, 5, 6, 7, 8, 9, 0, 0, 0, 0, 0, 0, 0}, api.OK},
		{nine, 17, nil, api.ErrRange},
		{nine, 8, nil, api.ErrTail},
		{nine, 1, nil, api.ErrTail},
		{nine, 0, nil, api.ErrTail},
		{nine[:1], 8, []byte{1, 2, 3, 4, 5, 6, 7, 8}, api.OK},
		{nine[:1], 7, nil, api.ErrTail},
		{nine[:1], 9, nil, api.ErrRange},
		{[]uint64{0}, 0, nil, api.ErrTail},
		{[]uint64{0}, 1, []byte{0}, api.OK},
		{[]uint64{0, 0}, 8, nil, api.ErrTail},
		{[]uint64{1 << 63}, 7, nil, api.ErrTail},
		{[]uint64{0x100}, 1, nil, api.ErrTail},
		{[]uint64{0xff}, 1, []byte{0xff}, api.OK},
		{nil, 1, nil, api.ErrRange},
	}
	for _, r := range rows {
		if b, e := Bytes(r.l, r.many); !bytes.Equal(b, r.b) || e != r.e {
			t.Errorf("Bytes(%#x, %d) = % x, %d", r.l, r.many, b, e)
		}
	}
}

func TestBytesErrorsInOrder(t *testing.T) {
	rows := []struct {
		words, many int
		e           api.Errno
	}{
		{0, -1, api.ErrArg},
		{2, -1, api.ErrArg},
		{4097, -1, api.ErrArg},
		{4097, math.MinInt, api.ErrArg},
		{0, 4097, api.ErrLong},
		{512, 4097, api.ErrLong},
		{513, 4097, api.ErrLong},
		{0, math.MaxInt, api.ErrLong},
		{4097, 0, api.ErrLong},
		{4097, 4096, api.ErrLong},
		{4096, 0, api.ErrTail},
		{4096, 4096, api.ErrTail},
		{513, 4096, api.ErrTail},
		{512, 4096, api.OK},
		{511, 4096, api.ErrRange},
		{511, 4089, api.ErrRange},
		{511, 4088, api.OK},
		{512, 4089, api.OK},
		{512, 4088, api.ErrTail},
	}
	for _, r := range rows {
		want := 0
		if r.e == api.OK {
			want = r.many
		}
		if b, e := Bytes(make([]uint64, r.words), r.many); e != r.e || len(b) != want {
			t.Errorf("Bytes(%d words, %d) = %d bytes, %d", r.words, r.many, len(b), e)
		}
	}
}

func TestBytesOfWords(t *testing.T) {
	s := sampler(5)
	for _, many := range []int{0, 1, 7, 8, 9, 15, 16, 17, 63, 64, 65, 448, 4088, 4095, 4096} {
		b := s.bytes(many)
		l, _ := Words(b)
		if back, e := Bytes(l, many); !bytes.Equal(back, b) || e != api.OK {
			t.Errorf("Bytes of Words of %d bytes: %d bytes, %d", many, len(back), e)
		}
	}
}

func TestWordsOfBoth(t *testing.T) {
	s := sampler(6)
	for _, whole := range []int{0, 1, 2, 9} {
		for more := range 20 {
			a, b := s.bytes(8*whole), s.bytes(more)
			first, _ := Words(a)
			rest, _ := Words(b)
			both, _ := Words(slices.Concat(a, b))
			if !slices.Equal(both, slices.Concat(first, rest)) {
				t.Errorf("%d words and %d bytes", whole, more)
			}
		}
	}
}

func TestListsStayAndAreNotKept(t *testing.T) {
	room := []byte{1, 2, 3, 4, 5}
	one, _ := Words(room[:3])
	other, _ := Words(room[:3])
	one[0] = 99
	if !bytes.Equal(room, []byte{1, 2, 3, 4, 5}) || other[0] != 0x030201 {
		t.Error(room, other)
	}
	words := []uint64{0x030201, 7, 8}
	first, _ := Bytes(words[:1], 3)
	second, _ := Bytes(words[:1], 3)
	first[0] = 99
	_ = append(first, 55)
	if !slices.Equal(words, []uint64{0x030201, 7, 8}) || !bytes.Equal(second, []byte{1, 2, 3}) {
		t.Error(words, second)
	}
	fields := []api.Field{{From: 0, Wide: 4}, {From: 2, Wide: 4}, {From: 8, Wide: 1}}
	held := slices.Clone(fields)
	Apart(fields[:2]...)
	if !slices.Equal(fields, held) {
		t.Error(fields)
	}
}

func TestBitsAnswers(t *testing.T) {
	rows := []struct {
		w uint64
		l []int
	}{
		{0, nil},
		{0x85, []int{0, 2, 7}},
		{1, []int{0}},
		{1 << 63, []int{63}},
		{1<<63 | 1, []int{0, 63}},
	}
	for _, r := range rows {
		if l := slices.Collect(Bits(r.w)); !slices.Equal(l, r.l) {
			t.Errorf("Bits(%#x) = %v", r.w, l)
		}
	}
	all := slices.Collect(Bits(math.MaxUint64))
	if len(all) != 64 || !slices.IsSorted(all) || all[0] != 0 || all[63] != 63 {
		t.Error(all)
	}
	s := sampler(7)
	for range 200 {
		w := s.next()
		var back uint64
		last := -1
		for at := range Bits(w) {
			if at <= last || at > 63 {
				t.Fatal(w, last, at)
			}
			back, last = back|1<<at, at
		}
		if back != w {
			t.Fatalf("bits of %#x are those of %#x", w, back)
		}
	}
}

func TestBitsLeftAndGoneOverAgain(t *testing.T) {
	many := Bits(0x85)
	for at := range many {
		if at == 2 {
			break
		}
	}
	asked := 0
	many(func(int) bool {
		asked++
		return false
	})
	if asked != 1 {
		t.Error("asked on behind the end:", asked)
	}
	var pairs []int
	for a := range many {
		for b := range many {
			pairs = append(pairs, 10*a+b)
		}
	}
	if !slices.Equal(pairs, []int{0, 2, 7, 20, 22, 27, 70, 72, 77}) {
		t.Error(pairs)
	}
}

func TestApartAnswers(t *testing.T) {
	field := func(from, wide int) api.Field { return api.Field{From: from, Wide: wide} }
	rows := []struct {
		l     []api.Field
		apart bool
	}{
		{nil, true},
		{[]api.Field{field(0, 64)}, true},
		{[]api.Field{field(0, 64), field(63, 1)}, false},
		{[]api.Field{field(0, 63), field(63, 1)}, true},
		{[]api.Field{field(63, 1), field(0, 63)}, true},
		{[]api.Field{field(63, 1), field(63, 1)}, false},
		{[]api.Field{field(4, 8), field(11, 1)}, false},
		{[]api.Field{field(4, 8), field(12, 1)}, true},
		{[]api.Field{field(4, 8), field(0, 4)}, true},
		{[]api.Field{field(4, 8), field(0, 5)}, false},
		{[]api.Field{field(4, 8), field(6, 2)}, false},
		{[]api.Field{field(0, 1), field(8, 8), field(2, 3), field(15, 2)}, false},
		{[]api.Field{field(0, 1), field(8, 8), field(2, 3), field(16, 2)}, true},
	}
	for _, r := range rows {
		if Apart(r.l...) != r.apart {
			t.Errorf("Apart(%v) is not %t", r.l, r.apart)
		}
	}
	for _, f := range badFields() {
		if Apart(f) || Apart(field(0, 1), f) || Apart(f, field(0, 1)) {
			t.Error("apart:", f)
		}
	}
}

func TestApartOfMany(t *testing.T) {
	var all []api.Field
	for i := range 64 {
		all = append(all, api.Field{From: 63 - i, Wide: 1})
	}
	if !Apart(all...) {
		t.Error("64 bits")
	}
	for i := range 64 {
		if Apart(append(slices.Clone(all), api.Field{From: i, Wide: 1})...) {
			t.Error("bit twice:", i)
		}
	}
	if Apart(make([]api.Field, 100000)...) {
		t.Error("fields that may not be")
	}
	s := sampler(8)
	for range 2000 {
		f, g := s.field(), s.field()
		common := slowPut(0, f, slowGet(math.MaxUint64, f)) & slowPut(0, g, slowGet(math.MaxUint64, g))
		if Apart(f, g) != (common == 0) || Apart(g, f) != (common == 0) {
			t.Fatal(f, g)
		}
	}
}
