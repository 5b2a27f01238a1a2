package file_test

import (
	"math"

	"waterline/api"
)

// sampler makes the same numbers in each run.
type sampler uint64

func (s *sampler) next() uint64 {
	*s = *s*6364136223846793005 + 1442695040888963407
	return uint64(*s ^ *s>>29)
}

func (s *sampler) below(n int) int { return int(s.next() >> 1 % uint64(n)) }

// bytes makes so many bytes, none of them nought: a nought that is told for one of them is seen.
func (s *sampler) bytes(many int) []byte {
	b := make([]byte, many)
	for i := range b {
		b[i] = byte(1 + s.below(255))
	}
	return b
}

// sparse makes so many bytes, whole chunks of which are nought; now and then there is one byte in such a chunk.
func (s *sampler) sparse(many int) []byte {
	b := s.bytes(many)
	for from := 0; from < many; from += 64 {
		if s.below(2) == 0 {
			clear(b[from:min(from+64, many)])
			if s.below(3) == 0 {
				b[from+s.below(min(64, many-from))] = 1 << s.below(8)
			}
		}
	}
	return b
}

// sizes are how many bytes a file may have, and too many.
func sizes() []int {
	return []int{0, 1, 2, 3, 7, 8, 9, 63, 64, 65, 100, 127, 128, 129, 191, 192, 193, 200, 256, 320, 383, 384, 385, 440, 446, 447, 448, 449, 450, 512, 4096, 4097, 70000}
}

// edges are numbers at and around all bounds, and far away.
func edges() []int {
	return []int{
		math.MinInt, math.MinInt + 1, math.MinInt + 448, -1 << 32, -1<<32 + 1, -449, -448, -64, -2, -1, 0, 1, 2, 3, 63, 64, 65, 127, 128, 129,
		192, 255, 256, 257, 384, 385, 446, 447, 448, 449, 450, 511, 512, 4096, 4097, 1<<32 - 1, 1 << 32, 1<<32 + 1, 1<<32 + 448,
		1 << 62, math.MaxInt - 449, math.MaxInt - 448, math.MaxInt - 447, math.MaxInt - 1, math.MaxInt,
	}
}

// slowWrite lays the bytes one by one, noughts ahead of them where the file has none.
func slowWrite(b []byte, at int, data []byte) ([]byte, api.Errno) {
	if at < 0 {
		return nil, api.ErrArg
	}
	if at > 448 || len(b) > 448 || len(data) > 448 || at+len(data) > 448 {
		return nil, api.ErrBig
	}
	var then []byte
	then = append(then, b...)
	for i, x := range data {
		for len(then) <= at+i {
			then = append(then, 0)
		}
		then[at+i] = x
	}
	return then, api.OK
}

func slowCut(b []byte, size int) ([]byte, api.Errno) {
	if size < 0 {
		return nil, api.ErrArg
	}
	if size > 448 || len(b) > 448 {
		return nil, api.ErrBig
	}
	var then []byte
	for i := range size {
		if i < len(b) {
			then = append(then, b[i])
		} else {
			then = append(then, 0)
		}
	}
	return then, api.OK
}

// slowRead goes over all places that a file may have.
func slowRead(b []byte, at, many int) ([]byte, api.Errno) {
	if at < 0 || many < 0 {
		return nil, api.ErrArg
	}
	if len(b) > 448 {
		return nil, api.ErrBig
	}
	var l []byte
	for i, x := range b {
		if i >= at && i-at < many {
			l = append(l, x)
		}
	}
	return l, api.OK
}

// slowChunks puts each byte where it belongs.
func slowChunks(b []byte) ([][8]uint64, api.Errno) {
	if len(b) > 448 {
		return nil, api.ErrBig
	}
	l := make([][8]uint64, (len(b)+63)/64)
	for i, x := range b {
		l[i/64][i%64/8] |= uint64(x) << (i % 8 * 8)
	}
	return l, api.OK
}

// slowJoin asks each byte that chunks have.
func slowJoin(size int, l ...[8]uint64) ([]byte, api.Errno) {
	if size < 0 {
		return nil, api.ErrArg
	}
	if size > 448 {
		return nil, api.ErrBig
	}
	if len(l) != (size+63)/64 {
		return nil, api.ErrChunks
	}
	var b []byte
	for i := range 64 * len(l) {
		x := byte(l[i/64][i%64/8] >> (i % 8 * 8))
		if i < size {
			b = append(b, x)
		} else if x != 0 {
			return nil, api.ErrChunks
		}
	}
	return b, api.OK
}

// slowByte is a byte of a chunk that a file has: nought behind its last one.
func slowByte(b []byte, i int) byte {
	if i < len(b) {
		return b[i]
	}
	return 0
}

func slowChanged(a, b []byte) ([]int, api.Errno) {
	if len(a) > 448 || len(b) > 448 {
		return nil, api.ErrBig
	}
	var l []int
	for k := range 7 {
		inA, inB := len(a) > 64*k, len(b) > 64*k
		unlike := inA != inB
		for i := 64 * k; i < 64*k+64; i++ {
			unlike = unlike || slowByte(a, i) != slowByte(b, i)
		}
		if unlike {
			l = append(l, k)
		}
	}
	return l, api.OK
}

func slowHoles(b []byte) []int {
	var l []int
	for k := 0; 64*k < len(b) && len(b) <= 448; k++ {
		nought := true
		for i := 64 * k; i < 64*k+64; i++ {
			nought = nought && slowByte(b, i) == 0
		}
		if nought {
			l = append(l, k)
		}
	}
	return l
}
