package label

import (
	"math"
	"slices"
	"strings"
	"testing"

	"waterline/api"
)

// someNames are names of all lengths, and such at the edges.
func someNames() []string {
	s := sampler(1)
	l := []string{
		"a", "b", "ab", "ba", "aa", "a.", ".a", "...", "....", "..a", ".a.", "!", "~", "!!", "~~", "~!", "-", "\\", "\"",
		"0", "00", "A", "AB", "Ab", "abcdefg", "abcdefgh", "abcdefghi", strings.Repeat(".", 40), strings.Repeat("~", 40), strings.Repeat("!", 40),
	}
	for many := 1; many <= 40; many++ {
		l = append(l, s.name(many), s.name(many))
	}
	return l
}

// noNames are texts that are no names.
func noNames() []string {
	l := []string{
		"", ".", "..", "/", "//", "/a", "a/", "a/b", "./", "../", "../..", " ", " a", "a ", "a b", "\t", "a\n", "\x00", "a\x00", "\x00a", "a\x00b",
		"\x1f", "\x7f", "a\x7f", "\x80", "\xa1", "\xff", "a\xff", "\xffa", "\xc3", "é", "aé", "\u0161", "\u0121", "\u2261", "\ufffd", "\U00010041", "\xed\xa0\x80",
	}
	for _, many := range []int{41, 42, 48, 64, 4096, 4097, 100000} {
		l = append(l, strings.Repeat("a", many), strings.Repeat("\x00", many), strings.Repeat(".", many))
	}
	return append(l, strings.Repeat("a", 39)+"/", strings.Repeat("a", 39)+" ", strings.Repeat("a", 40)+"\x00", strings.Repeat("é", 20))
}

func isName(t *testing.T, name string) {
	t.Helper()
	if e := Check(name); e != api.OK {
		t.Errorf("Check(%q) = %d", name, e)
	}
	w, e := Words(name)
	if w != slowWords(name) || e != api.OK {
		t.Errorf("Words(%q) = %x, %d", name, w, e)
	}
	if n, e := Read(w, len(name)); n != name || e != api.OK {
		t.Errorf("Read of Words(%q) = %q, %d", name, n, e)
	}
	if n, e := Bucket(name); n != slowBucket(name) || n < 0 || n > 6 || e != api.OK {
		t.Errorf("Bucket(%q) = %d, %d", name, n, e)
	}
	if !Same(name, w, len(name)) {
		t.Errorf("%q has other words than its own", name)
	}
	if l, e := Sorted(name); !slices.Equal(l, []string{name}) || e != api.OK {
		t.Errorf("Sorted(%q) = %q, %d", name, l, e)
	}
}

func isNoName(t *testing.T, name string) {
	t.Helper()
	if e := Check(name); e != api.ErrName {
		t.Errorf("Check(%q) = %d", name, e)
	}
	if w, e := Words(name); w != [5]uint64{} || e != api.ErrName {
		t.Errorf("Words(%q) = %x, %d", name, w, e)
	}
	if n, e := Bucket(name); n != 0 || e != api.ErrName {
		t.Errorf("Bucket(%q) = %d, %d", name, n, e)
	}
	for _, l := range [][]string{{name}, {name, "a"}, {"a", name}, {"a", name, "b"}, {name, name}} {
		if l, e := Sorted(l...); len(l) != 0 || e != api.ErrName {
			t.Errorf("Sorted with %q = %q, %d", name, l, e)
		}
	}
	for _, many := range []int{len(name), 0, 1, 2, 40, 41} {
		if Same(name, [5]uint64{}, many) || Same(name, slowWords(name), many) {
			t.Errorf("%q has words, of %d bytes", name, many)
		}
	}
	if n, e := Read(slowWords(name), len(name)); n != "" || e != api.ErrLabel {
		t.Errorf("Read of the bytes %q = %q, %d", name, n, e)
	}
}

func TestExamples(t *testing.T) {
	w, e := Words("ab")
	if w != [5]uint64{0x6261, 0, 0, 0, 0} || e != api.OK {
		t.Error(w, e)
	}
	if n, e := Read(w, 2); n != "ab" || e != api.OK {
		t.Error(n, e)
	}
	if n, e := Read(w, 1); n != "" || e != api.ErrLabel {
		t.Error(n, e)
	}
	if l, e := Sorted("b", "a", "b"); !slices.Equal(l, []string{"a", "b"}) || e != api.OK {
		t.Error(l, e)
	}
	for _, name := range []string{"a/b", "..", strings.Repeat("a", 41), ""} {
		if e := Check(name); e != api.ErrName {
			t.Errorf("Check(%q) = %d", name, e)
		}
	}
}

func TestNamesAndOthers(t *testing.T) {
	for _, name := range someNames() {
		isName(t, name)
	}
	for _, name := range noNames() {
		isNoName(t, name)
	}
}

// TestEachByteAtEachPlace puts all bytes alone, and into names, at their ends and within.
func TestEachByteAtEachPlace(t *testing.T) {
	for b := range 256 {
		one := string([]byte{byte(b)})
		for _, name := range []string{
			one, one + one, one + "a", "a" + one, "a" + one + "b", "abcdefg" + one + "i",
			one + strings.Repeat("c", 39), strings.Repeat("c", 39) + one, strings.Repeat("c", 40) + one, strings.Repeat(one, 40), strings.Repeat(one, 41),
		} {
			if slowIsName(name) {
				isName(t, name)
			} else {
				isNoName(t, name)
			}
		}
		if may := b >= 33 && b <= 126 && b != '/'; may != slowIsName("a"+one) {
			t.Error("the slow reckoning of byte", b)
		}
	}
}

func TestWordsAnswers(t *testing.T) {
	rows := []struct {
		name string
		l    [5]uint64
	}{
		{"a", [5]uint64{0x61}},
		{"abcdefgh", [5]uint64{0x6867666564636261}},
		{"abcdefghi", [5]uint64{0x6867666564636261, 0x69}},
		{"...", [5]uint64{0x2e2e2e}},
		{strings.Repeat("~", 40), [5]uint64{0x7e7e7e7e7e7e7e7e, 0x7e7e7e7e7e7e7e7e, 0x7e7e7e7e7e7e7e7e, 0x7e7e7e7e7e7e7e7e, 0x7e7e7e7e7e7e7e7e}},
	}
	for _, r := range rows {
		if l, e := Words(r.name); l != r.l || e != api.OK {
			t.Errorf("Words(%q) = %x, %d", r.name, l, e)
		}
		if n, e := Read(r.l, len(r.name)); n != r.name || e != api.OK {
			t.Errorf("Read(%x, %d) = %q, %d", r.l, len(r.name), n, e)
		}
	}
}

func TestBucketAnswers(t *testing.T) {
	rows := []struct {
		name string
		n    int
	}{
		{"a", 2}, {"b", 4}, {"ab", 3}, {"ba", 3}, {"...", 0}, {"!", 4}, {"~", 6}, {"f", 5},
		{"abcdefgh", 5}, {"abcdefghi", 5}, {strings.Repeat("a", 40), 5}, {strings.Repeat("~", 40), 2},
	}
	for _, r := range rows {
		if n, e := Bucket(r.name); n != r.n || e != api.OK {
			t.Errorf("Bucket(%q) = %d, %d", r.name, n, e)
		}
	}
	var many [7]int
	s := sampler(2)
	for range 2000 {
		name := s.name(1 + s.below(40))
		n, e := Bucket(name)
		if n != slowBucket(name) || e != api.OK {
			t.Fatalf("Bucket(%q) = %d, %d", name, n, e)
		}
		many[n]++
	}
	if slices.Contains(many[:], 0) {
		t.Error("a bucket without names:", many)
	}
}

// isRead holds Read, and Same, against the slow reckoning.
func isRead(t *testing.T, l [5]uint64, many int) {
	t.Helper()
	want, is := slowRead(l, many)
	wrong := api.OK
	if !is {
		wrong = api.ErrLabel
	}
	if n, e := Read(l, many); n != want || e != wrong {
		t.Errorf("Read(%x, %d) = %q, %d, not %q, %d", l, many, n, e, want, wrong)
	}
	if Same(want, l, many) != is {
		t.Errorf("%q of %d bytes has the words %x: %v", want, many, l, !is)
	}
}

func TestReadAtEachNumberOfBytes(t *testing.T) {
	far := []int{math.MinInt, math.MinInt + 1, -1 << 32, -41, -40, -8, -2, -1, 41, 42, 47, 48, 64, 255, 256, 4096, 4097, 1<<32 + 2, 1<<32 + 40, math.MaxInt - 1, math.MaxInt}
	for _, name := range append(someNames(), "", ".", "..", "a/b", "a\x00b", "a\x00\x00\x00\x00\x00\x00\x00b") {
		w := slowWords(name)
		for many := range 41 {
			isRead(t, w, many)
		}
		for _, many := range far {
			if n, e := Read(w, many); n != "" || e != api.ErrLabel {
				t.Errorf("Read(%x, %d) = %q, %d", w, many, n, e)
			}
			if Same(name, w, many) {
				t.Errorf("%q is of %d bytes", name, many)
			}
		}
	}
	for many := range 41 {
		isRead(t, [5]uint64{}, many)
	}
}

// TestReadOfShortWords tries all words of two bytes, and such at other places.
func TestReadOfShortWords(t *testing.T) {
	for w := range uint64(1 << 16) {
		for many := range 4 {
			isRead(t, [5]uint64{w}, many)
		}
	}
	for w := range uint64(256) {
		for _, many := range []int{1, 8, 9, 16, 39, 40} {
			isRead(t, [5]uint64{0x61, 0, 0, 0, w << 56}, many)
			isRead(t, [5]uint64{0x6161616161616161, w}, many)
			isRead(t, [5]uint64{0x6161616161616161, 0x6161616161616161, 0x6161616161616161, 0x6161616161616161, 0x61616161616161 | w<<56}, many)
		}
	}
}

// TestAnotherByte changes each byte of a name's words to each other one.
func TestAnotherByte(t *testing.T) {
	s := sampler(3)
	for _, name := range []string{"a", "..a", "...", "abcdefgh", "abcdefghi", s.name(17), s.name(32), s.name(39), s.name(40)} {
		w, _ := Words(name)
		for i := range 40 {
			for b := range uint64(256) {
				other := w
				other[i/8] = w[i/8]&^(0xff<<(i%8*8)) | b<<(i%8*8)
				isRead(t, other, len(name))
				if other == w {
					continue
				}
				if Same(name, other, len(name)) {
					t.Fatalf("%q has the words %x", name, other)
				}
				for _, many := range []int{len(name) - 1, len(name), len(name) + 1, i, i + 1, 40} {
					if n, _ := Read(other, many); n == name {
						t.Fatalf("Read(%x, %d) = %q", other, many, n)
					}
				}
			}
		}
	}
}

// TestSameOfAll holds each text against the words of each, of each number of bytes; one byte more, a nought or the 41st, is none of the words'.
func TestSameOfAll(t *testing.T) {
	names := []string{"a", "b", "ab", "ba", "abc", "...", "a.", "abcdefgh", "abcdefghi", strings.Repeat("a", 39), strings.Repeat("a", 40), "", ".", "..", "a/b", "a\x00", strings.Repeat("a", 41)}
	for _, name := range names {
		for _, of := range names {
			w := slowWords(of)
			for many := -1; many <= 42; many++ {
				read, is := slowRead(w, many)
				want := is && read == name
				if Same(name, w, many) != want {
					t.Errorf("Same(%q, the words of %q, %d) is %v", name, of, many, !want)
				}
			}
		}
	}
}

func TestUnlikeNames(t *testing.T) {
	type key struct {
		l    [5]uint64
		many int
	}
	s := sampler(4)
	names := someNames()
	for a := range len(mayStand) {
		for b := range len(mayStand) {
			names = append(names, mayStand[a:a+1]+"x"+mayStand[b:b+1])
		}
	}
	for range 2000 {
		names = append(names, s.name(1+s.below(40)))
	}
	known := map[key]string{}
	for _, name := range names {
		w, e := Words(name)
		k := key{w, len(name)}
		if was, is := known[k]; e != api.OK || is && was != name {
			t.Errorf("%q and %q: %x, %d", was, name, w, e)
		}
		known[k] = name
	}
}

func TestSortedAnswers(t *testing.T) {
	rows := []struct{ l, want []string }{
		{nil, nil},
		{[]string{}, nil},
		{[]string{"a"}, []string{"a"}},
		{[]string{"a", "a", "a"}, []string{"a"}},
		{[]string{"b", "a"}, []string{"a", "b"}},
		{[]string{"b", "a", "b"}, []string{"a", "b"}},
		{[]string{"b", "a", "b", "a"}, []string{"a", "b"}},
		{[]string{"abc", "b", "ab", "a", "B", "Z", "z"}, []string{"B", "Z", "a", "ab", "abc", "b", "z"}},
		{[]string{"10", "9", "1", "01", "2"}, []string{"01", "1", "10", "2", "9"}},
		{[]string{"~", "!", "a", "A", "0", "...", "a.", "a!", "a~"}, []string{"!", "...", "0", "A", "a", "a!", "a.", "a~", "~"}},
		{[]string{"abcdefghz", "abcdefghi", "zbcdefgha"}, []string{"abcdefghi", "abcdefghz", "zbcdefgha"}},
	}
	for _, r := range rows {
		if l, e := Sorted(r.l...); !slices.Equal(l, r.want) || e != api.OK {
			t.Errorf("Sorted(%q) = %q, %d", r.l, l, e)
		}
	}
	if l, e := Sorted(someNames()...); !slices.Equal(l, slowSorted(someNames())) || e != api.OK {
		t.Error(l, e)
	}
}

// TestSortedOfBoth sorts two lists each, both behind one another, and in other orders.
func TestSortedOfBoth(t *testing.T) {
	s := sampler(5)
	for range 300 {
		var a, b []string
		for range s.below(9) {
			a = append(a, s.name(1+s.below(2)))
		}
		for range s.below(9) {
			b = append(b, s.name(1+s.below(2)))
		}
		if len(a) > 0 {
			b = append(b, a[s.below(len(a))])
		}
		whole := slices.Concat(a, b)
		want := slowSorted(whole)
		one, _ := Sorted(a...)
		other, _ := Sorted(b...)
		for _, l := range [][]string{whole, slices.Concat(b, a), slices.Concat(one, other), slices.Concat(other, one), want} {
			if told, e := Sorted(l...); !slices.Equal(told, want) || e != api.OK {
				t.Fatalf("Sorted(%q) = %q, %d", l, told, e)
			}
		}
		slices.Reverse(whole)
		if told, e := Sorted(whole...); !slices.Equal(told, want) || e != api.OK {
			t.Fatalf("Sorted(%q) = %q, %d", whole, told, e)
		}
	}
}

func TestSortedOfMany(t *testing.T) {
	s := sampler(6)
	var l []string
	for range 20000 {
		l = append(l, s.name(1+s.below(3)))
	}
	told, e := Sorted(l...)
	if e != api.OK || !slices.IsSorted(told) || len(told) >= len(l) || len(told) != len(slices.Compact(slices.Clone(told))) {
		t.Error(len(told), e)
	}
	for _, name := range l {
		if _, is := slices.BinarySearch(told, name); !is {
			t.Fatal("lost:", name)
		}
	}
	if told, e := Sorted(append(l, "a/b")...); len(told) != 0 || e != api.ErrName {
		t.Error(len(told), e)
	}
}

func TestListsStayAndAreNotShared(t *testing.T) {
	room := []string{"c", "a", "b", "a", "z", "y"}
	one, _ := Sorted(room[:4]...)
	if !slices.Equal(room, []string{"c", "a", "b", "a", "z", "y"}) {
		t.Error(room)
	}
	other, _ := Sorted(room[:4]...)
	one[0] = "x"
	one = append(one, "w")
	room[1] = "v"
	if !slices.Equal(other, []string{"a", "b", "c"}) || !slices.Equal(one, []string{"x", "b", "c", "w"}) || room[0] != "c" {
		t.Error(other, one, room)
	}
	sorted := []string{"a", "b"}
	told, _ := Sorted(sorted...)
	told[0] = "x"
	if sorted[0] != "a" {
		t.Error("the answer is the list that was handed in")
	}
}
