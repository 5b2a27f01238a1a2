package node_test

import (
	"math"
	"slices"
	"strings"
	"testing"

	"waterline/api"
	"waterline/node"
)

// calls are those of one kind of line, and their slow reckonings.
type calls[T comparable] struct {
	put     func(T) ([8]uint64, api.Errno)
	get     func([8]uint64) (T, api.Errno)
	slowPut func(T) ([8]uint64, bool)
	slowGet func([8]uint64) (T, bool)
}

var (
	supers  = calls[api.Super]{node.PutSuper, node.GetSuper, slowPutSuper, slowGetSuper}
	inodes  = calls[api.Inode]{node.PutInode, node.GetInode, slowPutInode, slowGetInode}
	maps    = calls[api.Map]{node.PutMap, node.GetMap, slowPutMap, slowGetMap}
	tables  = calls[api.Table]{node.PutTable, node.GetTable, slowPutTable, slowGetTable}
	entries = calls[api.Entry]{node.PutEntry, node.GetEntry, slowPutEntry, slowGetEntry}
)

// isPut holds Put, and Get of what was put, against what is told slowly; it tells whether it may be.
func (c calls[T]) isPut(t *testing.T, x T) bool {
	t.Helper()
	want, may := c.slowPut(x)
	wrong := api.ErrArg
	if may {
		wrong = api.OK
	}
	l, e := c.put(x)
	if l != want || e != wrong {
		t.Fatalf("Put of %+v: %x, %d; not %x, %d", x, l, e, want, wrong)
	}
	if !may {
		return false
	}
	if y, e := c.get(l); y != x || e != api.OK {
		t.Fatalf("Get of Put of %+v: %+v, %d", x, y, e)
	}
	return true
}

// isGot holds Get, and Put of what was got, against what is told slowly; it tells whether there is such a line.
func (c calls[T]) isGot(t *testing.T, l [8]uint64) bool {
	t.Helper()
	want, is := c.slowGet(l)
	wrong := api.ErrNode
	if is {
		wrong = api.OK
	}
	x, e := c.get(l)
	if x != want || e != wrong {
		t.Fatalf("Get of %x: %+v, %d; not %+v, %d", l, x, e, want, wrong)
	}
	if !is {
		return false
	}
	if again, e := c.put(x); again != l || e != api.OK {
		t.Fatalf("Put of Get of %x: %x, %d", l, again, e)
	}
	return true
}

// edges are numbers at and around all bounds, and far away.
func edges() []int {
	return []int{
		math.MinInt, math.MinInt + 1, -1 << 32, -1024, -256, -8, -2, -1, 0, 1, 2, 3, 4, 7, 8, 9, 39, 40, 41, 63, 64, 65, 199, 200, 201,
		255, 256, 257, 447, 448, 449, 511, 512, 513, 1022, 1023, 1024, 1025, 65536, 1<<32 - 1, 1 << 32, 1<<32 + 1, 1<<32 + 8, 1<<32 + 258,
		1 << 56, 1<<56 + 1, 1<<62 + 1, math.MaxInt - 1, math.MaxInt,
	}
}

// wordEdges are these numbers as words, those below 0 too, and others with a bit far up.
func wordEdges() []uint64 {
	l := []uint64{0x100, 0x101, 0x102, 0x202, 0x301, 769, 0xc801, 0xc901, 0x8000000000000101, 0x0100000000000101, 0x77617465726c696e, 0x77617465726c696f, 0x6e696c7265746177, 0x6261}
	for _, n := range edges() {
		l = append(l, uint64(n))
	}
	return l
}

// isGotNear asks of each line that is the same but for one bit, or one word.
func (c calls[T]) isGotNear(t *testing.T, l [8]uint64) {
	t.Helper()
	if !c.isGot(t, l) {
		t.Fatalf("no such line: %x", l)
	}
	for at := range l {
		near := l
		for bit := range 64 {
			near[at] = l[at] ^ 1<<bit
			c.isGot(t, near)
		}
		for _, w := range wordEdges() {
			near[at] = w
			c.isGot(t, near)
			near[at] = l[at] + w
			c.isGot(t, near)
		}
	}
}

// someNames are names of each length, and such at the edges of what may stand.
func someNames() []string {
	s := sampler(1)
	l := []string{"a", "b", "ab", "!", "~", "~~", "...", "..a", ".a", "a.", "abcdefgh", "abcdefghi", strings.Repeat("~", 40), strings.Repeat(".", 40)}
	for many := 1; many <= 40; many++ {
		l = append(l, s.name(many), s.name(many))
	}
	return l
}

// noNames are texts that are no names.
func noNames() []string {
	return []string{
		"", ".", "..", "/", "a/b", "/a", "a/", " ", "a b", "a\x00", "\x00", "\x00a", "\x7f", "\x1f", "\x80", "\xff", "aé", "\ufffd", "a\n",
		strings.Repeat("a", 41), strings.Repeat("a", 48), strings.Repeat("a", 4097), strings.Repeat("a", 40) + "\x00", strings.Repeat("é", 20),
	}
}

func TestExamples(t *testing.T) {
	file := api.Inode{Kind: api.InodeFile, Links: 3, Top: 9}
	l, e := node.PutInode(file)
	if l != [8]uint64{769, 9} || e != api.OK {
		t.Error(l, e)
	}
	if x, e := node.GetInode(l); x != file || e != api.OK {
		t.Error(x, e)
	}
	if x, e := node.GetInode([8]uint64{}); x != (api.Inode{}) || e != api.ErrNode {
		t.Error(x, e)
	}
	if l, e := node.PutInode(api.Inode{Kind: api.InodeDir, Links: 2, Top: 9}); l != [8]uint64{} || e != api.ErrArg {
		t.Error(l, e)
	}
	if l, e := node.PutEntry(api.Entry{Next: 0, Node: 5, Name: "ab"}); l != [8]uint64{0, 5, 2, 0x6261} || e != api.OK {
		t.Error(l, e)
	}
	if x, e := node.GetMap([8]uint64{65, 4, 7}); x != (api.Map{Size: 65, Chunks: [7]int{4, 7}}) || e != api.OK {
		t.Error(x, e)
	}
	if x, e := node.GetMap([8]uint64{64, 4, 7}); x != (api.Map{}) || e != api.ErrNode {
		t.Error(x, e)
	}
	if n, e := node.Chunks(65); n != 2 || e != api.OK {
		t.Error(n, e)
	}
}

// TestWordsAsTold writes lines of all kinds out, at their bounds.
func TestWordsAsTold(t *testing.T) {
	is := func(l [8]uint64, e api.Errno, want ...uint64) {
		t.Helper()
		var w [8]uint64
		copy(w[:], want)
		if l != w || e != api.OK {
			t.Errorf("%x, %d; not %x", l, e, w)
		}
	}
	l, e := node.PutSuper(api.Super{Root: 1, Lines: 8})
	is(l, e, 0x77617465726c696e, 1, 8)
	l, e = node.PutSuper(api.Super{Root: 1023, Lines: 1024})
	is(l, e, 0x77617465726c696e, 1023, 1024)
	l, e = node.PutInode(api.Inode{Kind: api.InodeFile, Links: 1, Top: 1})
	is(l, e, 257, 1)
	l, e = node.PutInode(api.Inode{Kind: api.InodeFile, Links: 200, Top: 1023})
	is(l, e, 51201, 1023)
	l, e = node.PutInode(api.Inode{Kind: api.InodeDir, Links: 1, Top: 5})
	is(l, e, 258, 5)
	l, e = node.PutMap(api.Map{})
	is(l, e)
	l, e = node.PutMap(api.Map{Size: 448, Chunks: [7]int{1, 2, 0, 4, 0, 6, 1023}})
	is(l, e, 448, 1, 2, 0, 4, 0, 6, 1023)
	l, e = node.PutTable(api.Table{})
	is(l, e)
	l, e = node.PutTable(api.Table{Heads: [7]int{1023, 2, 0, 4, 5, 6, 7}})
	is(l, e, 1023, 2, 0, 4, 5, 6, 7)
	l, e = node.PutEntry(api.Entry{Next: 1023, Node: 1, Name: "abcdefghijklmnopqrstuvwxyz0123456789ABCD"})
	is(l, e, 1023, 1, 40, 0x6867666564636261, 0x706f6e6d6c6b6a69, 0x7877767574737271, 0x3534333231307a79, 0x4443424139383736)
}

func TestSupers(t *testing.T) {
	for n := -2; n <= 1027; n++ {
		for _, other := range edges() {
			supers.isPut(t, api.Super{Root: n, Lines: other})
			supers.isPut(t, api.Super{Root: other, Lines: n})
		}
	}
	for _, a := range edges() {
		for _, b := range edges() {
			supers.isPut(t, api.Super{Root: a, Lines: b})
		}
	}
	for _, x := range []api.Super{{Root: 1, Lines: 8}, {Root: 4, Lines: 40}, {Root: 1023, Lines: 8}, {Root: 1023, Lines: 1024}, {Root: 512, Lines: 512}} {
		l, _ := slowPutSuper(x)
		supers.isGotNear(t, l)
	}
	for w := range uint64(1100) {
		supers.isGot(t, [8]uint64{api.Magic, w, 40})
		supers.isGot(t, [8]uint64{api.Magic, 4, w})
	}
}

func TestInodes(t *testing.T) {
	for kind := api.InodeKind(-2); kind <= 5; kind++ {
		for links := -2; links <= 260; links++ {
			for _, top := range []int{-1, 0, 1, 512, 1023, 1024} {
				inodes.isPut(t, api.Inode{Kind: kind, Links: links, Top: top})
			}
		}
	}
	for _, a := range edges() {
		for _, b := range edges() {
			inodes.isPut(t, api.Inode{Kind: api.InodeFile, Links: a, Top: b})
			inodes.isPut(t, api.Inode{Kind: api.InodeDir, Links: a, Top: b})
			inodes.isPut(t, api.Inode{Kind: api.InodeKind(a), Links: 1, Top: 9})
			inodes.isPut(t, api.Inode{Kind: api.InodeKind(a), Links: b, Top: 9})
		}
	}
	for w := range uint64(1 << 17) {
		inodes.isGot(t, [8]uint64{w, 9})
	}
	for w := range uint64(1100) {
		inodes.isGot(t, [8]uint64{257, w})
		inodes.isGot(t, [8]uint64{258, w})
	}
	for _, l := range [][8]uint64{{257, 1}, {258, 5}, {258, 1023}, {51201, 1023}, {769, 9}} {
		inodes.isGotNear(t, l)
	}
}

// TestMapsOfEachSize puts a pointer at each chunk alone, and at all up to one.
func TestMapsOfEachSize(t *testing.T) {
	for size := -2; size <= 451; size++ {
		maps.isPut(t, api.Map{Size: size})
		upTo := api.Map{Size: size}
		for k := range 7 {
			for _, p := range []int{-1, 1, 7, 1023, 1024} {
				one := api.Map{Size: size}
				one.Chunks[k] = p
				if may := maps.isPut(t, one); may != (p > 0 && p < 1024 && size > 64*k && size < 449) {
					t.Fatal(one, may)
				}
			}
			upTo.Chunks[k] = 10 + k
			maps.isPut(t, upTo)
		}
	}
	for _, size := range edges() {
		for _, p := range edges() {
			for k := range 7 {
				x := api.Map{Size: size}
				x.Chunks[k] = p
				maps.isPut(t, x)
				x.Size = 448
				maps.isPut(t, x)
			}
		}
	}
}

func TestMapsOfWords(t *testing.T) {
	maps.isGotNear(t, [8]uint64{})
	for w := range uint64(1100) {
		maps.isGot(t, [8]uint64{w})
		for k := range 7 {
			l := [8]uint64{w}
			l[1+k] = 9
			maps.isGot(t, l)
			l[0], l[1+k] = 448, w
			maps.isGot(t, l)
		}
	}
	for _, size := range []uint64{1, 64, 65, 128, 129, 447, 448} {
		maps.isGotNear(t, [8]uint64{size})
		l := [8]uint64{size}
		for k := range max(1, (size+63)/64) {
			l[1+k] = 1023 - k
			maps.isGotNear(t, l)
		}
	}
}

func TestTables(t *testing.T) {
	for n := range 7 {
		for p := -2; p <= 1026; p++ {
			var x api.Table
			x.Heads[n] = p
			tables.isPut(t, x)
		}
		for _, p := range edges() {
			x := api.Table{Heads: [7]int{1, 2, 3, 4, 5, 6, 7}}
			x.Heads[n] = p
			tables.isPut(t, x)
		}
	}
	for w := range uint64(1100) {
		for at := range 8 {
			var l [8]uint64
			l[at] = w
			tables.isGot(t, l)
		}
	}
	for _, l := range [][8]uint64{{}, {1, 2, 3, 4, 5, 6, 7}, {1023, 1023, 1023, 1023, 1023, 1023, 1023}, {0, 0, 0, 0, 0, 0, 9}} {
		tables.isGotNear(t, l)
	}
}

func TestEntriesOfEachPointer(t *testing.T) {
	for n := -2; n <= 1026; n++ {
		entries.isPut(t, api.Entry{Next: n, Node: 5, Name: "ab"})
		entries.isPut(t, api.Entry{Next: 0, Node: n, Name: "ab"})
	}
	for _, a := range edges() {
		for _, b := range edges() {
			entries.isPut(t, api.Entry{Next: a, Node: b, Name: "ab"})
		}
	}
	for w := range uint64(1100) {
		entries.isGot(t, [8]uint64{w, 5, 2, 0x6261})
		entries.isGot(t, [8]uint64{0, w, 2, 0x6261})
		entries.isGot(t, [8]uint64{0, 5, w, 0x6261})
	}
}

func TestEntriesOfNames(t *testing.T) {
	for _, name := range someNames() {
		if !entries.isPut(t, api.Entry{Next: 0, Node: 1, Name: name}) || !entries.isPut(t, api.Entry{Next: 1023, Node: 1023, Name: name}) {
			t.Errorf("%q is a name", name)
		}
	}
	for _, name := range noNames() {
		if entries.isPut(t, api.Entry{Next: 0, Node: 1, Name: name}) || entries.isPut(t, api.Entry{Next: -1, Node: 1, Name: name}) {
			t.Errorf("%q is no name", name)
		}
	}
	for b := range 256 {
		for _, name := range []string{"", "a", strings.Repeat("a", 39)} {
			entries.isPut(t, api.Entry{Node: 1, Name: string([]byte{byte(b)}) + name})
			entries.isPut(t, api.Entry{Node: 1, Name: name + string([]byte{byte(b)})})
		}
	}
}

func TestEntriesOfWords(t *testing.T) {
	for _, name := range []string{"a", "ab", "...", "abcdefgh", "abcdefghi", strings.Repeat("z", 32), strings.Repeat("z", 33), strings.Repeat("~", 40)} {
		l, _ := slowPutEntry(api.Entry{Next: 3, Node: 5, Name: name})
		entries.isGotNear(t, l)
		for i := range 40 {
			for b := range uint64(256) {
				other := l
				other[3+i/8] = l[3+i/8]&^(0xff<<(i%8*8)) | b<<(i%8*8)
				entries.isGot(t, other)
			}
		}
	}
	for w := range uint64(1 << 16) {
		for many := range uint64(4) {
			entries.isGot(t, [8]uint64{0, 5, many, w})
		}
	}
}

// TestOtherKinds asks each kind of the words of all others.
func TestOtherKinds(t *testing.T) {
	s := sampler(2)
	small := func() uint64 {
		return []uint64{0, 0, 0, 1, 2, 5, 64, 257, 258, 448, 1023, 0x61, 0x6261, api.Magic}[s.below(14)]
	}
	found := [5]int{}
	for range 200000 {
		var l [8]uint64
		for at := range 1 + s.below(8) {
			l[at] = small()
		}
		for n, is := range []bool{supers.isGot(t, l), inodes.isGot(t, l), maps.isGot(t, l), tables.isGot(t, l), entries.isGot(t, l)} {
			if is {
				found[n]++
			}
		}
	}
	if slices.Min(found[:]) < 50 {
		t.Error("too few lines of some kind:", found)
	}
}

// TestAnotherNext changes an entry's pointers: the words elsewhere stay.
func TestAnotherNext(t *testing.T) {
	s := sampler(3)
	for range 3000 {
		x := api.Entry{Next: s.below(1024), Node: 1 + s.below(1023), Name: s.name(1 + s.below(40))}
		y := api.Entry{Next: s.below(1024), Node: 1 + s.below(1023), Name: x.Name}
		a, e := node.PutEntry(x)
		b, other := node.PutEntry(y)
		if e != api.OK || other != api.OK || [6]uint64(a[2:]) != [6]uint64(b[2:]) || b[0] != uint64(y.Next) || b[1] != uint64(y.Node) {
			t.Fatalf("%+v, %+v: %x, %x", x, y, a, b)
		}
		b[0], b[1] = a[0], a[1]
		if b != a {
			t.Fatalf("%+v, %+v: %x, %x", x, y, a, b)
		}
	}
}

// TestALinkMore gives a file link after link.
func TestALinkMore(t *testing.T) {
	for _, top := range []int{1, 9, 1023} {
		l, _ := node.PutInode(api.Inode{Kind: api.InodeFile, Links: 1, Top: top})
		for links := 2; links <= 200; links++ {
			more, e := node.PutInode(api.Inode{Kind: api.InodeFile, Links: links, Top: top})
			l[0] += 256
			if more != l || e != api.OK {
				t.Fatalf("%d links: %x, %d; not %x", links, more, e, l)
			}
		}
		l[0] += 256
		if x, e := node.GetInode(l); x != (api.Inode{}) || e != api.ErrNode {
			t.Error(x, e)
		}
	}
}

func TestChunks(t *testing.T) {
	sizes := edges()
	for size := -3; size <= 520; size++ {
		sizes = append(sizes, size)
	}
	for _, size := range sizes {
		want, may := slowChunks(size)
		wrong := api.ErrArg
		if may {
			wrong = api.OK
		}
		if n, e := node.Chunks(size); n != want || e != wrong {
			t.Errorf("Chunks(%d) = %d, %d; not %d, %d", size, n, e, want, wrong)
		}
	}
}

// TestChunksAndMaps: a map has room for pointers at just as many chunks as its size has.
func TestChunksAndMaps(t *testing.T) {
	for size := range 449 {
		many, _ := node.Chunks(size)
		for k := range 7 {
			x := api.Map{Size: size}
			x.Chunks[k] = 1
			if _, e := node.PutMap(x); (e == api.OK) != (k < many) {
				t.Fatal(size, k, many, e)
			}
		}
	}
}
