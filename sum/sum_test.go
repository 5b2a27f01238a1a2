package sum

import (
	"bytes"
	"iter"
	"math"
	"math/big"
	"slices"
	"testing"

	"waterline/api"
)

// none is the sum of no words.
const none = 14695981039346656037

// sampler makes the same numbers in each run.
type sampler uint64

func (s *sampler) next() uint64 {
	*s = *s*6364136223846793005 + 1442695040888963407
	return uint64(*s ^ *s>>29)
}

func (s *sampler) below(n int) int { return int(s.next() >> 1 % uint64(n)) }

func (s *sampler) words(many int) []uint64 {
	l := make([]uint64, many)
	for i := range l {
		l[i] = s.next()
	}
	return l
}

func (s *sampler) bytes(many int) []byte {
	b := make([]byte, many)
	for i := range b {
		b[i] = byte(s.next() >> 20)
	}
	return b
}

// slowMore works by whole numbers of any size over what the package leaves to the words' wrap-round.
func slowMore(sum uint64, l ...uint64) uint64 {
	prime, _ := new(big.Int).SetString("1099511628211", 10)
	modulus := new(big.Int).Lsh(big.NewInt(1), 64)
	n := new(big.Int).SetUint64(sum)
	for _, w := range l {
		n.Xor(n, new(big.Int).SetUint64(w))
		n.Mul(n, prime)
		n.Mod(n, modulus)
	}
	return n.Uint64()
}

// slowText makes the words byte by byte.
func slowText(b []byte) uint64 {
	l := make([]uint64, (len(b)+7)/8)
	for i, x := range b {
		l[i/8] |= uint64(x) << (i % 8 * 8)
	}
	return slowMore(none, append(l, uint64(len(b)))...)
}

func lists() [][]uint64 {
	s := sampler(1)
	all := [][]uint64{
		nil, {}, {0}, {1}, {0, 0}, {1, 2}, {2, 1}, {math.MaxUint64}, {1 << 63}, {none}, {none, 0}, {none, none},
		make([]uint64, 4096),
	}
	for _, many := range []int{1, 2, 3, 7, 8, 9, 23, 24, 512, 513, 4095, 4096} {
		all = append(all, s.words(many))
	}
	return all
}

func TestOfAnswers(t *testing.T) {
	rows := []struct {
		l []uint64
		n uint64
	}{
		{nil, 14695981039346656037},
		{[]uint64{}, 14695981039346656037},
		{[]uint64{0}, 12638153115695167455},
		{[]uint64{none}, 0},
		{[]uint64{none, 1}, 1099511628211},
		{[]uint64{none ^ 1}, 1099511628211},
		{[]uint64{none ^ 1<<63}, 1 << 63},
	}
	for _, r := range rows {
		if n, e := Of(r.l...); n != r.n || e != api.OK {
			t.Errorf("Of(%d) = %d, %d", r.l, n, e)
		}
	}
	for _, l := range lists() {
		if n, e := Of(l...); n != slowMore(none, l...) || e != api.OK {
			t.Errorf("Of %d words = %d, %d", len(l), n, e)
		}
	}
}

func TestMoreAnswers(t *testing.T) {
	s := sampler(2)
	for _, from := range []uint64{0, 1, none, math.MaxUint64, 1 << 63, s.next(), s.next()} {
		for _, l := range lists() {
			if n, e := More(from, l...); n != slowMore(from, l...) || e != api.OK {
				t.Errorf("More of %d with %d words = %d, %d", from, len(l), n, e)
			}
		}
	}
	if n, e := More(5); n != 5 || e != api.OK {
		t.Error(n, e)
	}
	if n, e := More(0, 0, 0, 0); n != 0 || e != api.OK {
		t.Error(n, e)
	}
}

// TestMoreOfBeginnings parts lists at each word around their ends, and behind the bound of one call.
func TestMoreOfBeginnings(t *testing.T) {
	s := sampler(3)
	l := s.words(40)
	whole, _ := Of(l...)
	for a := range len(l) + 1 {
		first, _ := Of(l[:a]...)
		if n, e := More(first, l[a:]...); n != whole || e != api.OK {
			t.Errorf("parted at %d: %d, %d", a, n, e)
		}
		for b := a; b <= len(l); b++ {
			second, _ := More(first, l[a:b]...)
			both, _ := More(first, l[a:]...)
			if n, e := More(second, l[b:]...); n != both || e != api.OK {
				t.Errorf("parted at %d and %d: %d, %d", a, b, n, e)
			}
		}
	}
	long := s.words(8192)
	first, _ := Of(long[:4096]...)
	if n, e := More(first, long[4096:]...); n != slowMore(none, long...) || e != api.OK {
		t.Error(n, e)
	}
}

func TestTooMany(t *testing.T) {
	for _, many := range []int{4097, 4098, 70000} {
		l := make([]uint64, many)
		if n, e := Of(l...); n != 0 || e != api.ErrLong {
			t.Errorf("Of %d words = %d, %d", many, n, e)
		}
		if n, e := More(7, l...); n != 0 || e != api.ErrLong {
			t.Errorf("More with %d words = %d, %d", many, n, e)
		}
		if n, e := Seal(l...); n != 0 || e != api.ErrLong {
			t.Errorf("Seal of %d words = %d, %d", many, n, e)
		}
		for _, seal := range []uint64{0, 1, slowMore(none, l...)} {
			if Sealed(seal, l...) {
				t.Errorf("%d is sealed with %d words", seal, many)
			}
		}
		if n, e := Text(make([]byte, many)); n != 0 || e != api.ErrLong {
			t.Errorf("Text of %d bytes = %d, %d", many, n, e)
		}
		for at, n := range Steps(l...) {
			t.Fatalf("Steps of %d words tells %d, %d", many, at, n)
		}
	}
}

func TestSealAnswers(t *testing.T) {
	for _, l := range lists() {
		want := slowMore(none, l...)
		if want == 0 {
			want = 1
		}
		if n, e := Seal(l...); n != want || e != api.OK {
			t.Errorf("Seal of %d words = %d, not %d, %d", len(l), n, want, e)
		}
		if !Sealed(want, l...) {
			t.Errorf("%d is not sealed with %d words", want, len(l))
		}
		if Sealed(0, l...) || Sealed(want+1, l...) || Sealed(want^1<<63, l...) {
			t.Errorf("another number is sealed with %d words", len(l))
		}
	}
	if n, e := Seal(none); n != 1 || e != api.OK {
		t.Errorf("the seal of a sum 0 is %d, %d", n, e)
	}
	if !Sealed(1, none) || Sealed(0, none) || Sealed(2, none) {
		t.Error("a sum 0 is sealed otherwise than by 1")
	}
	if Sealed(0) || !Sealed(none) || Sealed(1) {
		t.Error("no words are sealed otherwise than by their sum")
	}
	one, _ := Seal(1, 2)
	if !Sealed(one, 1, 2) || Sealed(one, 2, 1) || Sealed(one, 1) || Sealed(one, 1, 2, 0) || Sealed(one, 1, 3) {
		t.Error("the seal of 1, 2")
	}
}

// TestOneWordThatIsAnother changes each bit of each word, and whole words.
func TestOneWordThatIsAnother(t *testing.T) {
	s := sampler(4)
	for _, many := range []int{1, 2, 3, 24} {
		l := s.words(many)
		was, _ := Of(l...)
		for i := range l {
			other := slices.Clone(l)
			for bit := range 64 {
				other[i] = l[i] ^ 1<<bit
				if n, _ := Of(other...); n == was {
					t.Errorf("%d words, word %d, bit %d", many, i, bit)
				}
			}
			for _, w := range []uint64{0, math.MaxUint64, l[i] + 1, ^l[i], s.next()} {
				other[i] = w
				if n, _ := Of(other...); n == was {
					t.Errorf("%d words, word %d is %d", many, i, w)
				}
			}
		}
	}
	long := s.words(4096)
	was, _ := Of(long...)
	for _, i := range []int{0, 1, 2048, 4095} {
		other := slices.Clone(long)
		other[i] ^= 1 << s.below(64)
		if n, _ := Of(other...); n == was {
			t.Error("4096 words, word", i)
		}
	}
}

func TestTextAnswers(t *testing.T) {
	rows := []struct {
		b []byte
		l []uint64
	}{
		{nil, []uint64{0}},
		{[]byte{}, []uint64{0}},
		{[]byte{0}, []uint64{0, 1}},
		{[]byte{0, 0}, []uint64{0, 2}},
		{[]byte("ab"), []uint64{0x6261, 2}},
		{[]byte{1, 2, 3, 4, 5, 6, 7, 8}, []uint64{0x0807060504030201, 8}},
		{[]byte{1, 2, 3, 4, 5, 6, 7, 8, 9}, []uint64{0x0807060504030201, 9, 9}},
		{[]byte{0xff, 0xfe}, []uint64{0xfeff, 2}},
	}
	for _, r := range rows {
		if n, e := Text(r.b); n != slowMore(none, r.l...) || e != api.OK {
			t.Errorf("Text(% x) = %d, %d", r.b, n, e)
		}
	}
	s := sampler(5)
	for _, many := range []int{0, 1, 6, 7, 8, 9, 15, 16, 17, 40, 448, 4088, 4089, 4095, 4096} {
		b := s.bytes(many)
		if n, e := Text(b); n != slowText(b) || e != api.OK {
			t.Errorf("Text of %d bytes = %d, %d", many, n, e)
		}
	}
}

type step struct {
	at int
	n  uint64
}

func gathered(over iter.Seq2[int, uint64]) []step {
	var l []step
	for at, n := range over {
		l = append(l, step{at, n})
	}
	return l
}

func TestStepsAnswers(t *testing.T) {
	if l := gathered(Steps()); len(l) != 0 {
		t.Error(l)
	}
	if l := gathered(Steps(none, 1, 0)); !slices.Equal(l, []step{
		{0, 0}, {1, 1099511628211}, {2, slowMore(1099511628211, 0)},
	}) {
		t.Error(l)
	}
	for _, l := range lists() {
		var want []step
		n := uint64(none)
		for at, w := range l {
			n = slowMore(n, w)
			want = append(want, step{at, n})
		}
		if got := gathered(Steps(l...)); !slices.Equal(got, want) {
			t.Errorf("%d words: %d steps", len(l), len(got))
		}
	}
}

func TestStepsLeftAndGoneOverAgain(t *testing.T) {
	over := Steps(5, 6, 7)
	want := gathered(Steps(5, 6, 7))
	for at := range over {
		if at == 1 {
			break
		}
	}
	for stay := range 3 {
		asked := 0
		over(func(int, uint64) bool {
			asked++
			return asked <= stay
		})
		if asked != stay+1 {
			t.Errorf("asked %d times, told to stop at %d", asked, stay+1)
		}
	}
	if l := gathered(over); !slices.Equal(l, want) {
		t.Error(l)
	}
	var inner [][]step
	var outer []step
	for at, n := range over {
		inner = append(inner, gathered(over))
		outer = append(outer, step{at, n})
	}
	if !slices.Equal(outer, want) || len(inner) != 3 {
		t.Error(outer, inner)
	}
	for _, l := range inner {
		if !slices.Equal(l, want) {
			t.Error(l)
		}
	}
}

func TestListsStayAndAreNotKept(t *testing.T) {
	words := []uint64{1, 2, 3, 44, 55}
	over := Steps(words[:3]...)
	want := gathered(over)
	Of(words[:3]...)
	More(9, words[:3]...)
	Seal(words[:3]...)
	Sealed(9, words[:3]...)
	if !slices.Equal(words, []uint64{1, 2, 3, 44, 55}) {
		t.Error(words)
	}
	words[0], words[2] = 99, 98
	if l := gathered(over); !slices.Equal(l, want) {
		t.Error("the list that was handed in is kept:", l)
	}
	room := []byte{1, 2, 3, 4, 5, 6, 7, 8, 9, 10, 11, 12}
	Text(room[:8])
	Text(room[:3])
	if !bytes.Equal(room, []byte{1, 2, 3, 4, 5, 6, 7, 8, 9, 10, 11, 12}) {
		t.Error(room)
	}
}
