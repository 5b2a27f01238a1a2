package file

import (
	"slices"

	"waterline/api"
	"waterline/word"
)

const chunkBytes = 64

// content is a file's bytes.
type content []byte

func (c content) isBig() bool { return len(c) > api.MaxFile }

// end lets the bytes end at a size: those behind are gone, or noughts come. They are new ones: what was handed in stays.
func (c *content) end(size int) {
	then := make(content, size)
	copy(then, *c)
	*c = then
}

// part is so many bytes from a place on, or as many as there are.
func (c content) part(at, many int) []byte {
	from := c[min(at, len(c)):]
	p := make([]byte, min(many, len(from)))
	copy(p, from)
	return p
}

// chunks is asked only of bytes that are not too many: they are not so for the layer below, either.
func (c content) chunks() [][8]uint64 {
	var l [][8]uint64
	words, _ := word.Words(c)
	for few := range slices.Chunk(words, api.LineWords) {
		var chunk [8]uint64
		copy(chunk[:], few)
		l = append(l, chunk)
	}
	return l
}

// filing is a file under way, and what is to be written to it.
type filing struct {
	content
	data []byte
}

// write lets the data stand from a place on.
func (f *filing) write(at int) {
	if len(f.data) == 0 { // no noughts come for it, either
		return
	}
	f.end(max(len(f.content), at+len(f.data)))
	copy(f.content[at:], f.data)
}

// behind tells the bytes behind a change at a place, from which on there must be room for so many.
func (f *filing) behind(change func(at int), at, many int) ([]byte, api.Errno) {
	wrong := api.ErrArg
	if at < 0 {
		goto refused
	}
	wrong = api.ErrBig
	if f.isBig() || many > api.MaxFile-at { // also of none, where the place lies behind all that may be
		goto refused
	}
	f.end(len(f.content)) // a change of nothing answers new bytes, too
	change(at)
	return f.content, api.OK
refused:
	return nil, wrong
}

// joined is all bytes of chunks, those behind a file's end too; it is asked only of as many as a file may have.
func joined(l ...[8]uint64) filing {
	var words []uint64
	for _, chunk := range l {
		words = append(words, chunk[:]...)
	}
	b, _ := word.Bytes(words, chunkBytes*len(l))
	return filing{content: b}
}

func isNought(chunk [8]uint64) bool { return chunk == [8]uint64{} }

// numbers gathers the numbers of the things that are such, rising.
func numbers[T any](l []T, such func(n int, x T) bool) []int {
	var told []int
	for n, x := range l {
		if such(n, x) {
			told = append(told, n)
		}
	}
	return told
}
