package node_test

import (
	"strings"

	"waterline/api"
)

// sampler makes the same numbers in each run.
type sampler uint64

func (s *sampler) next() uint64 {
	*s = *s*6364136223846793005 + 1442695040888963407
	return uint64(*s ^ *s>>29)
}

func (s *sampler) below(n int) int { return int(s.next() >> 1 % uint64(n)) }

// mayStand is all bytes of names, written out.
const mayStand = "!\"#$%&'()*+,-.0123456789:;<=>?@ABCDEFGHIJKLMNOPQRSTUVWXYZ[\\]^_`abcdefghijklmnopqrstuvwxyz{|}~"

// name makes a name of so many bytes.
func (s *sampler) name(many int) string {
	for {
		b := make([]byte, many)
		for i := range b {
			b[i] = mayStand[s.below(len(mayStand))]
		}
		if slowIsName(string(b)) {
			return string(b)
		}
	}
}

func slowIsName(s string) bool {
	for _, b := range []byte(s) {
		if strings.IndexByte(mayStand, b) < 0 {
			return false
		}
	}
	return s != "" && len(s) < 41 && s != "." && s != ".."
}

func isPointer(n int) bool { return n >= 0 && n < 1024 }

// slowPut.. tell the words of a line, word by word as the chapter tells them, and whether that may be.

func slowPutSuper(x api.Super) ([8]uint64, bool) {
	if x.Root < 1 || x.Root > 1023 || x.Lines < 8 || x.Lines > 1024 {
		return [8]uint64{}, false
	}
	return [8]uint64{0x77617465726c696e, uint64(x.Root), uint64(x.Lines)}, true
}

func slowPutInode(x api.Inode) ([8]uint64, bool) {
	file := x.Kind == 1 && x.Links >= 1 && x.Links <= 200
	dir := x.Kind == 2 && x.Links == 1
	if !file && !dir || x.Top < 1 || x.Top > 1023 {
		return [8]uint64{}, false
	}
	return [8]uint64{uint64(x.Kind) + 256*uint64(x.Links), uint64(x.Top)}, true
}

func slowPutMap(x api.Map) ([8]uint64, bool) {
	if x.Size < 0 || x.Size > 448 {
		return [8]uint64{}, false
	}
	l := [8]uint64{uint64(x.Size)}
	for k, p := range x.Chunks {
		if !isPointer(p) || 64*k >= x.Size && p != 0 {
			return [8]uint64{}, false
		}
		l[1+k] = uint64(p)
	}
	return l, true
}

func slowPutTable(x api.Table) ([8]uint64, bool) {
	var l [8]uint64
	for n, p := range x.Heads {
		if !isPointer(p) {
			return [8]uint64{}, false
		}
		l[n] = uint64(p)
	}
	return l, true
}

func slowPutEntry(x api.Entry) ([8]uint64, bool) {
	if !isPointer(x.Next) || x.Node < 1 || x.Node > 1023 || !slowIsName(x.Name) {
		return [8]uint64{}, false
	}
	l := [8]uint64{uint64(x.Next), uint64(x.Node), uint64(len(x.Name))}
	for i := range len(x.Name) {
		l[3+i/8] |= uint64(x.Name[i]) << (8 * (i % 8))
	}
	return l, true
}

// below tells words as numbers, and whether all are below a bound.
func below(bound uint64, words ...uint64) ([]int, bool) {
	var l []int
	for _, w := range words {
		if w >= bound {
			return nil, false
		}
		l = append(l, int(w))
	}
	return l, true
}

// slowGet.. ask of each word by itself what it may be.

func slowGetSuper(l [8]uint64) (api.Super, bool) {
	n, is := below(1025, l[1], l[2])
	if !is || l[0] != 0x77617465726c696e || n[0] < 1 || n[0] > 1023 || n[1] < 8 || l[3]|l[4]|l[5]|l[6]|l[7] != 0 {
		return api.Super{}, false
	}
	return api.Super{Root: n[0], Lines: n[1]}, true
}

func slowGetInode(l [8]uint64) (api.Inode, bool) {
	if l[1] < 1 || l[1] > 1023 || l[2]|l[3]|l[4]|l[5]|l[6]|l[7] != 0 {
		return api.Inode{}, false
	}
	if l[0] == 2+256 {
		return api.Inode{Kind: api.InodeDir, Links: 1, Top: int(l[1])}, true
	}
	for links := 1; links <= 200; links++ {
		if l[0] == uint64(1+256*links) {
			return api.Inode{Kind: api.InodeFile, Links: links, Top: int(l[1])}, true
		}
	}
	return api.Inode{}, false
}

func slowGetMap(l [8]uint64) (api.Map, bool) {
	n, is := below(1024, l[:]...)
	if !is || n[0] > 448 {
		return api.Map{}, false
	}
	for k := range 7 {
		if n[1+k] != 0 && 64*k >= n[0] {
			return api.Map{}, false
		}
	}
	return api.Map{Size: n[0], Chunks: [7]int(n[1:])}, true
}

func slowGetTable(l [8]uint64) (api.Table, bool) {
	n, is := below(1024, l[:]...)
	if !is || n[7] != 0 {
		return api.Table{}, false
	}
	return api.Table{Heads: [7]int(n[:7])}, true
}

func slowGetEntry(l [8]uint64) (api.Entry, bool) {
	n, is := below(1024, l[:3]...)
	if !is || n[1] == 0 || n[2] > 40 {
		return api.Entry{}, false
	}
	var name strings.Builder
	for i := range 40 {
		b := byte(l[3+i/8] >> (8 * (i % 8)))
		if i < n[2] {
			name.WriteByte(b)
		} else if b != 0 {
			return api.Entry{}, false
		}
	}
	if !slowIsName(name.String()) {
		return api.Entry{}, false
	}
	return api.Entry{Next: n[0], Node: n[1], Name: name.String()}, true
}

// slowChunks counts the chunks that begin ahead of the end.
func slowChunks(size int) (int, bool) {
	if size < 0 || size > 448 {
		return 0, false
	}
	many := 0
	for from := 0; from < size; from += 64 {
		many++
	}
	return many, true
}
