package file_test

import (
	"bytes"
	"math"
	"slices"
	"testing"

	"waterline/api"
	"waterline/file"
	"waterline/node"
)

func isWritten(t *testing.T, b []byte, at int, data []byte) {
	t.Helper()
	want, wrong := slowWrite(b, at, data)
	if then, e := file.Write(b, at, data); !bytes.Equal(then, want) || e != wrong {
		t.Fatalf("Write of %d bytes at %d of %d: %x, %d; not %x, %d", len(data), at, len(b), then, e, want, wrong)
	}
}

func isCut(t *testing.T, b []byte, size int) {
	t.Helper()
	want, wrong := slowCut(b, size)
	if then, e := file.Cut(b, size); !bytes.Equal(then, want) || e != wrong {
		t.Fatalf("Cut of %d bytes to %d: %x, %d; not %x, %d", len(b), size, then, e, want, wrong)
	}
}

func isRead(t *testing.T, b []byte, at, many int) {
	t.Helper()
	want, wrong := slowRead(b, at, many)
	if l, e := file.Read(b, at, many); !bytes.Equal(l, want) || e != wrong {
		t.Fatalf("Read of %d bytes from %d of %d: %x, %d; not %x, %d", many, at, len(b), l, e, want, wrong)
	}
}

// isChunks holds the chunks of bytes, the bytes of these chunks, and the holes, against what is told slowly.
func isChunks(t *testing.T, b []byte) {
	t.Helper()
	want, wrong := slowChunks(b)
	l, e := file.Chunks(b)
	if !slices.Equal(l, want) || e != wrong {
		t.Fatalf("Chunks of %x: %x, %d; not %x, %d", b, l, e, want, wrong)
	}
	if told := slices.Collect(file.Holes(b)); !slices.Equal(told, slowHoles(b)) {
		t.Fatalf("Holes of %x: %d", b, told)
	}
	if e != api.OK {
		return
	}
	if back, e := file.Join(len(b), l...); !bytes.Equal(back, b) || e != api.OK {
		t.Fatalf("Join of Chunks of %x: %x, %d", b, back, e)
	}
}

func isJoined(t *testing.T, size int, l ...[8]uint64) api.Errno {
	t.Helper()
	want, wrong := slowJoin(size, l...)
	b, e := file.Join(size, l...)
	if !bytes.Equal(b, want) || e != wrong {
		t.Fatalf("Join of %d bytes of %x: %x, %d; not %x, %d", size, l, b, e, want, wrong)
	}
	return e
}

func isChanged(t *testing.T, a, b []byte) []int {
	t.Helper()
	want, wrong := slowChanged(a, b)
	l, e := file.Changed(a, b)
	if !slices.Equal(l, want) || e != wrong {
		t.Fatalf("Changed(%x, %x) = %d, %d; not %d, %d", a, b, l, e, want, wrong)
	}
	return l
}

func TestExamplesOfBytes(t *testing.T) {
	is := func(b []byte, e api.Errno, want string, wrong api.Errno) {
		t.Helper()
		if string(b) != want || e != wrong {
			t.Errorf("%q, %d; not %q, %d", b, e, want, wrong)
		}
	}
	b, e := file.Write([]byte("ab"), 4, []byte("c"))
	is(b, e, "ab\x00\x00c", api.OK)
	b, e = file.Write([]byte("abc"), 1, []byte("x"))
	is(b, e, "axc", api.OK)
	b, e = file.Write([]byte("ab"), 9, nil)
	is(b, e, "ab", api.OK)
	b, e = file.Write(nil, 448, []byte("c"))
	is(b, e, "", api.ErrBig)
	b, e = file.Cut([]byte("abc"), 1)
	is(b, e, "a", api.OK)
	b, e = file.Cut([]byte("a"), 3)
	is(b, e, "a\x00\x00", api.OK)
	b, e = file.Read([]byte("abc"), 1, 9)
	is(b, e, "bc", api.OK)
	b, e = file.Read([]byte("abc"), 3, 1)
	is(b, e, "", api.OK)
}

func TestExamplesOfChunks(t *testing.T) {
	if l, e := file.Chunks(make([]byte, 65)); len(l) != 2 || e != api.OK {
		t.Error(l, e)
	}
	if l, e := file.Changed([]byte("abc"), []byte("abd")); !slices.Equal(l, []int{0}) || e != api.OK {
		t.Error(l, e)
	}
	if l, e := file.Changed([]byte("abc"), nil); !slices.Equal(l, []int{0}) || e != api.OK {
		t.Error(l, e)
	}
	if l := slices.Collect(file.Holes(append(make([]byte, 64), 'a'))); !slices.Equal(l, []int{0}) {
		t.Error(l)
	}
}

// TestWrites writes few and many bytes at all places of files of all kinds of sizes.
func TestWrites(t *testing.T) {
	s := sampler(1)
	for _, size := range sizes() {
		b := s.bytes(size)
		for _, many := range sizes() {
			data := s.bytes(many)
			for at := -2; at <= 451; at++ {
				isWritten(t, b, at, data)
			}
			for _, at := range edges() {
				isWritten(t, b, at, data)
			}
		}
	}
}

func TestWritesAtTheBound(t *testing.T) {
	rows := []struct {
		size, at, many, then int
		wrong                api.Errno
	}{
		{0, 0, 448, 448, api.OK}, {0, 0, 449, 0, api.ErrBig}, {448, 0, 448, 448, api.OK}, {448, 447, 1, 448, api.OK}, {448, 447, 2, 0, api.ErrBig},
		{0, 447, 1, 448, api.OK}, {0, 448, 0, 0, api.OK}, {7, 448, 0, 7, api.OK}, {448, 448, 0, 448, api.OK}, {448, 448, 1, 0, api.ErrBig},
		{0, 449, 0, 0, api.ErrBig}, {448, 449, 0, 0, api.ErrBig}, {449, 0, 0, 0, api.ErrBig}, {449, 0, 1, 0, api.ErrBig},
		{449, -1, 0, 0, api.ErrArg}, {449, -1, 449, 0, api.ErrArg}, {0, -1, 0, 0, api.ErrArg}, {0, -1, 449, 0, api.ErrArg}, {0, -1, 1, 0, api.ErrArg},
		{0, math.MinInt, 1, 0, api.ErrArg}, {0, math.MaxInt, 0, 0, api.ErrBig}, {0, math.MaxInt, 1, 0, api.ErrBig},
		{448, math.MaxInt, 448, 0, api.ErrBig}, {0, math.MaxInt - 447, 448, 0, api.ErrBig},
	}
	for _, r := range rows {
		if b, e := file.Write(make([]byte, r.size), r.at, make([]byte, r.many)); e != r.wrong || len(b) != r.then {
			t.Errorf("%v: %d bytes, %d", r, len(b), e)
		}
	}
}

func TestCuts(t *testing.T) {
	s := sampler(2)
	for _, size := range sizes() {
		b := s.bytes(size)
		for to := -2; to <= 451; to++ {
			isCut(t, b, to)
		}
		for _, to := range edges() {
			isCut(t, b, to)
		}
	}
	if b, e := file.Cut(make([]byte, 449), 448); len(b) != 0 || e != api.ErrBig {
		t.Error(len(b), e)
	}
	if b, e := file.Cut(make([]byte, 449), -1); len(b) != 0 || e != api.ErrArg {
		t.Error(len(b), e)
	}
}

func TestReads(t *testing.T) {
	s := sampler(3)
	for _, size := range sizes() {
		b := s.bytes(size)
		for _, many := range edges() {
			for at := -2; at <= min(size, 449)+2; at++ {
				isRead(t, b, at, many)
			}
			for _, at := range edges() {
				isRead(t, b, at, many)
			}
		}
	}
	for at := range 12 {
		for many := range 12 {
			isRead(t, []byte("abcdefghi"), at, many)
		}
	}
}

// TestReadsFarAway: a place, a number that no file has is no error.
func TestReadsFarAway(t *testing.T) {
	for _, n := range []int{448, 449, 1 << 32, math.MaxInt - 1, math.MaxInt} {
		for _, b := range [][]byte{nil, {}, []byte("abc"), make([]byte, 448)} {
			if l, e := file.Read(b, n, n); len(l) != 0 || e != api.OK {
				t.Error(n, len(b), l, e)
			}
			if l, e := file.Read(b, 0, n); !bytes.Equal(l, b) || e != api.OK {
				t.Error(n, len(b), l, e)
			}
		}
		if l, e := file.Read(make([]byte, 449), n, n); len(l) != 0 || e != api.ErrBig {
			t.Error(n, l, e)
		}
		if l, e := file.Read(make([]byte, 449), n, -1); len(l) != 0 || e != api.ErrArg {
			t.Error(n, l, e)
		}
	}
}

// TestChunksOfEachSize asks of files of all sizes: all bytes that are not nought, all that are, and some.
func TestChunksOfEachSize(t *testing.T) {
	s := sampler(4)
	for size := range 460 {
		isChunks(t, s.bytes(size))
		isChunks(t, make([]byte, size))
		isChunks(t, bytes.Repeat([]byte{255}, size))
		for range 10 {
			isChunks(t, s.sparse(size))
		}
	}
	for _, size := range sizes() {
		isChunks(t, s.bytes(size))
	}
	isChunks(t, nil)
}

func TestChunksAsTold(t *testing.T) {
	b := append(make([]byte, 64), 1, 2, 3, 4, 5, 6, 7, 8, 9)
	b[0], b[15], b[63] = 0xff, 0x80, 0x01
	want := [][8]uint64{{0xff, 0x8000000000000000, 7: 0x0100000000000000}, {0x0807060504030201, 9}}
	if l, e := file.Chunks(b); !slices.Equal(l, want) || e != api.OK {
		t.Errorf("%x, %d", l, e)
	}
}

// TestChunksAreAsManyAsNodeTells holds how many there are against what a map has room for.
func TestChunksAreAsManyAsNodeTells(t *testing.T) {
	for size := range 449 {
		l, _ := file.Chunks(make([]byte, size))
		if many, _ := node.Chunks(size); len(l) != many {
			t.Error(size, len(l), many)
		}
	}
}

// TestJoinsOfOneBit sets each bit of chunks alone: a bit behind the size is refused.
func TestJoinsOfOneBit(t *testing.T) {
	for _, size := range []int{1, 2, 7, 8, 9, 56, 57, 63, 64, 65, 127, 128, 129, 384, 385, 440, 441, 447, 448} {
		l := make([][8]uint64, (size+63)/64)
		for bit := range 512 * len(l) {
			at := &l[bit/512][bit%512/64]
			*at = 1 << (bit % 64)
			if e := isJoined(t, size, l...); (e == api.OK) != (bit < 8*size) {
				t.Fatal(size, bit, e)
			}
			*at = 0
		}
	}
}

// TestJoinsOfManyChunks gives sizes more and fewer chunks than they have, and chunks of other sizes.
func TestJoinsOfManyChunks(t *testing.T) {
	s := sampler(5)
	for _, many := range []int{0, 1, 2, 3, 4, 5, 6, 7, 8, 9, 64, 65, 512, 513, 5000} {
		l := make([][8]uint64, many)
		for _, size := range edges() {
			isJoined(t, size, l...)
		}
		for _, size := range sizes() {
			isJoined(t, size, l...)
			has, _ := slowChunks(s.bytes(min(size, 448)))
			for _, other := range sizes() {
				isJoined(t, other, has...)
			}
		}
	}
	for size := 1; size <= 448; size++ {
		has, _ := slowChunks(s.bytes(size))
		for other := range 452 {
			if e := isJoined(t, other, has...); (e == api.OK) != (other >= size && (other+63)/64 == len(has) && other < 449) {
				t.Fatal(size, other, e)
			}
		}
	}
}

func TestJoinsRefused(t *testing.T) {
	rows := []struct {
		size, many int
		wrong      api.Errno
	}{
		{-1, 0, api.ErrArg}, {-1, 9, api.ErrArg}, {math.MinInt, 1, api.ErrArg}, {449, 0, api.ErrBig}, {449, 7, api.ErrBig}, {449, 8, api.ErrBig},
		{512, 8, api.ErrBig}, {math.MaxInt, 0, api.ErrBig}, {448, 8, api.ErrChunks}, {448, 6, api.ErrChunks}, {0, 1, api.ErrChunks}, {0, 0, api.OK},
		{1, 0, api.ErrChunks}, {1, 2, api.ErrChunks}, {1, 1, api.OK}, {64, 2, api.ErrChunks}, {64, 1, api.OK}, {65, 1, api.ErrChunks}, {65, 2, api.OK}, {448, 7, api.OK},
	}
	for _, r := range rows {
		if b, e := file.Join(r.size, make([][8]uint64, r.many)...); e != r.wrong || e != api.OK && len(b) != 0 {
			t.Errorf("%v: %x, %d", r, b, e)
		}
	}
}

func TestChanges(t *testing.T) {
	s := sampler(6)
	for range 20000 {
		a := s.sparse(s.below(450))
		b := slices.Clone(a)
		for range s.below(3) {
			if len(b) > 0 {
				b[s.below(len(b))] = byte(s.below(3))
			}
		}
		if s.below(2) == 0 {
			b = append(b[:s.below(len(b)+1)], make([]byte, s.below(100))...)
		}
		if there, back := isChanged(t, a, b), isChanged(t, b, a); !slices.Equal(there, back) {
			t.Fatal(there, back)
		}
	}
}

// TestChangesOfSizes holds files of noughts, and others, against one another: a chunk that one alone has is told, even if it is nought.
func TestChangesOfSizes(t *testing.T) {
	s := sampler(7)
	for _, one := range sizes() {
		for _, other := range sizes() {
			isChanged(t, make([]byte, one), make([]byte, other))
			isChanged(t, make([]byte, one), s.bytes(other))
			isChanged(t, s.bytes(one), make([]byte, other))
			whole := s.bytes(max(one, other))
			isChanged(t, whole[:one], whole[:other])
		}
	}
	rows := []struct {
		one, other int
		want       []int
	}{
		{0, 0, nil}, {1, 2, nil}, {64, 1, nil}, {64, 65, []int{1}}, {65, 128, nil}, {0, 448, []int{0, 1, 2, 3, 4, 5, 6}}, {448, 385, nil}, {448, 384, []int{6}},
	}
	for _, r := range rows {
		if l, e := file.Changed(make([]byte, r.one), make([]byte, r.other)); !slices.Equal(l, r.want) || e != api.OK {
			t.Errorf("%v: %d, %d", r, l, e)
		}
	}
}

// TestChangesOfOneBit changes each bit of a file alone.
func TestChangesOfOneBit(t *testing.T) {
	s := sampler(8)
	b := s.bytes(448)
	for bit := range 8 * len(b) {
		other := slices.Clone(b)
		other[bit/8] ^= 1 << (bit % 8)
		if l, e := file.Changed(b, other); !slices.Equal(l, []int{bit / 512}) || e != api.OK {
			t.Fatal(bit, l, e)
		}
	}
}

// TestHoles asks of each choice of chunks that are nought, at sizes in the last of which a byte stands first or last.
func TestHoles(t *testing.T) {
	for choice := range 128 {
		for _, size := range []int{448, 447, 385, 384, 129, 65, 64, 1} {
			for _, at := range []int{0, 63} {
				b := make([]byte, size)
				for k := 0; 64*k < size; k++ {
					if choice>>k&1 == 1 {
						b[min(64*k+at, size-1)] = 1
					}
				}
				isChunks(t, b)
			}
		}
	}
}

func TestHolesOfTooManyBytes(t *testing.T) {
	for _, size := range []int{449, 450, 512, 4097} {
		for n := range file.Holes(make([]byte, size)) {
			t.Error(size, n)
		}
	}
	if l := slices.Collect(file.Holes(make([]byte, 448))); !slices.Equal(l, []int{0, 1, 2, 3, 4, 5, 6}) {
		t.Error(l)
	}
}

func TestHolesLeftAndGoneOverAgain(t *testing.T) {
	b := make([]byte, 448)
	b[70] = 1
	over, want := file.Holes(b), []int{0, 2, 3, 4, 5, 6}
	for stay := range 6 {
		asked := 0
		over(func(int) bool {
			asked++
			return asked <= stay
		})
		if asked != stay+1 {
			t.Errorf("asked %d times, told to stop at %d", asked, stay+1)
		}
	}
	var outer []int
	for n := range over {
		outer = append(outer, n)
		if inner := slices.Collect(over); !slices.Equal(inner, want) {
			t.Error(n, inner)
		}
	}
	if !slices.Equal(outer, want) {
		t.Error(outer)
	}
}

// TestWrittenIsRead: what is written is read there, and bytes elsewhere stay.
func TestWrittenIsRead(t *testing.T) {
	s := sampler(9)
	for range 20000 {
		b, data := s.bytes(s.below(449)), s.bytes(s.below(200))
		at := s.below(449 - len(data))
		then, e := file.Write(b, at, data)
		if e != api.OK {
			t.Fatal(e)
		}
		if l, e := file.Read(then, at, len(data)); !bytes.Equal(l, data) || e != api.OK {
			t.Fatalf("%x written at %d, %x read, %d", data, at, l, e)
		}
		if len(data) == 0 && !bytes.Equal(then, b) {
			t.Fatalf("%x of %x", then, b)
		}
		for i, x := range then {
			if (i < at || i >= at+len(data)) && x != slowByte(b, i) {
				t.Fatalf("byte %d of %x, written at %d: %x", i, b, at, then)
			}
		}
	}
}

// TestInTwoParts writes and reads in two parts, in either order, and cuts in two steps.
func TestInTwoParts(t *testing.T) {
	s := sampler(10)
	for range 20000 {
		b, data := s.bytes(s.below(449)), s.bytes(s.below(200))
		at, mid := s.below(449-len(data)), s.below(len(data)+1)
		once, _ := file.Write(b, at, data)
		one, _ := file.Write(b, at, data[:mid])
		one, _ = file.Write(one, at+mid, data[mid:])
		other, _ := file.Write(b, at+mid, data[mid:])
		other, _ = file.Write(other, at, data[:mid])
		if !bytes.Equal(one, once) || !bytes.Equal(other, once) {
			t.Fatalf("%x, at %d, %x in parts of %d: %x, %x, %x", b, at, data, mid, once, one, other)
		}
		whole, _ := file.Read(b, at, len(data))
		head, _ := file.Read(b, at, mid)
		tail, _ := file.Read(b, at+mid, len(data)-mid)
		if !bytes.Equal(append(head, tail...), whole) {
			t.Fatal(at, mid, whole, head, tail)
		}
		size := s.below(449)
		less := s.below(size + 1)
		first, _ := file.Cut(b, size)
		first, _ = file.Cut(first, less)
		if then, _ := file.Cut(b, less); !bytes.Equal(then, first) {
			t.Fatalf("%x cut to %d, %d: %x, %x", b, size, less, first, then)
		}
	}
}

// TestSameWhereNothingChanged: two files of one size of which nothing changed are the same.
func TestSameWhereNothingChanged(t *testing.T) {
	s := sampler(11)
	same := 0
	for range 20000 {
		size := s.below(449)
		a := s.sparse(size)
		b := slices.Clone(a)
		if size > 0 && s.below(3) > 0 {
			b[s.below(size)] = byte(s.below(2))
		}
		if l, e := file.Changed(a, b); (len(l) == 0) != bytes.Equal(a, b) || e != api.OK {
			t.Fatalf("%x, %x: %d, %d", a, b, l, e)
		}
		if bytes.Equal(a, b) {
			same++
		}
	}
	if same < 1000 || same > 19000 {
		t.Error("too few, or too many, were the same:", same)
	}
}

// TestBytesStayAndAreNotKept hands in bytes with spare room, and changes what was answered, and what was handed in.
func TestBytesStayAndAreNotKept(t *testing.T) {
	room := []byte("abcdefghijklmnopqrstuvwxyz")
	was := slices.Clone(room)
	b, data := room[:5], room[10:12]
	written, _ := file.Write(b, 3, data)
	longer, _ := file.Write(b, 9, data)
	first, _ := file.Write(b[:0], 0, data)
	none, _ := file.Write(b, 2, nil)
	shorter, _ := file.Cut(b, 2)
	wider, _ := file.Cut(b, 9)
	alike, _ := file.Cut(b, 5)
	part, _ := file.Read(b, 1, 3)
	told := [][]byte{written, longer, first, none, shorter, wider, alike, part}
	want := []string{"abckl", "abcde\x00\x00\x00\x00kl", "kl", "abcde", "ab", "abcde\x00\x00\x00\x00", "abcde", "bcd"}
	areAsTold := func(from int) {
		t.Helper()
		for i := from; i < len(told); i++ {
			if string(told[i]) != want[i] {
				t.Errorf("%d: %q, not %q", i, told[i], want[i])
			}
		}
	}
	areAsTold(0)
	if !bytes.Equal(room, was) {
		t.Errorf("%q", room)
	}
	clear(room)
	areAsTold(0)
	copy(room, was)
	for i, x := range told {
		clear(x[:cap(x)])
		areAsTold(i + 1)
	}
	if !bytes.Equal(room, was) {
		t.Errorf("%q", room)
	}
}

func TestChunksStayAndAreNotKept(t *testing.T) {
	room := make([]byte, 300)
	room[64], room[299] = 7, 9
	b := room[:130]
	over := file.Holes(b)
	chunks, _ := file.Chunks(b)
	again, _ := file.Chunks(b)
	numbers, _ := file.Changed(b, nil)
	if room[64] != 7 || room[299] != 9 {
		t.Fatal(room)
	}
	for i := range room {
		room[i] = 5
	}
	if l := slices.Collect(over); !slices.Equal(l, []int{0, 2}) {
		t.Error(l)
	}
	if want := [][8]uint64{{}, {7}, {}}; !slices.Equal(chunks, want) {
		t.Error(chunks)
	}
	held := append(chunks[:3:3], [8]uint64{1})[:3]
	joined, _ := file.Join(130, held...)
	if want := append(make([]byte, 64), 7); !bytes.HasPrefix(joined, want) || held[:4][3] != [8]uint64{1} {
		t.Error(joined, held[:4])
	}
	chunks[1], held[1], numbers[0] = [8]uint64{2}, [8]uint64{3}, 4
	if joined[64] != 7 || again[1] != [8]uint64{7} {
		t.Error(joined, again)
	}
	joined[64] = 8
	if held[1] != [8]uint64{3} {
		t.Error(held)
	}
}
