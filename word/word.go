// Package word is layer 1: words of 64 bits, their bytes, and fields of bits. See shared/doc/01-word.md.
package word

import (
	"iter"
	"math/bits"
	"slices"

	"waterline/api"
)

const (
	wordBits  = 64
	wordBytes = 8
	most      = 4096 // bytes, or words, of one call
)

// Get tells the number that a field of a word has (P1.1).
func Get(w uint64, f api.Field) (uint64, api.Errno) {
	p := part{spanOf(f), w}
	if !p.mayBe() {
		return 0, api.ErrArg
	}
	return p.number(), api.OK
}

// Put tells the word in which a field has another number (P1.1).
func Put(w uint64, f api.Field, n uint64) (uint64, api.Errno) {
	p := part{spanOf(f), w}
	if !p.mayBe() || !p.holds(n) {
		return 0, api.ErrArg
	}
	return p.with(n), api.OK
}

// Words tells the words of bytes (P1.2).
func Words(b []byte) ([]uint64, api.Errno) {
	if len(b) > most {
		return nil, api.ErrLong
	}
	l := make([]uint64, 0, needed(len(b)))
	for eight := range slices.Chunk(b, wordBytes) {
		l = append(l, joined(eight))
	}
	return l, api.OK
}

// Bytes tells so many bytes of words (P1.2).
func Bytes(l []uint64, many int) ([]byte, api.Errno) {
	var wrong api.Errno
	var all []byte
	if many < 0 {
		wrong = api.ErrArg
		goto refused
	}
	if many > most || len(l) > most {
		wrong = api.ErrLong
		goto refused
	}
	if many > wordBytes*len(l) {
		wrong = api.ErrRange
		goto refused
	}
	if needed(many) < len(l) {
		wrong = api.ErrTail
		goto refused
	}
	all = split(l)
	if slices.ContainsFunc(all[many:], func(behind byte) bool { return behind != 0 }) {
		wrong = api.ErrTail
		goto refused
	}
	return all[:many:many], api.OK
refused:
	return nil, wrong
}

// Bits goes over the bits of a word that are 1, by their numbers, rising (P1.3).
func Bits(w uint64) iter.Seq[int] {
	return func(yield func(int) bool) {
		for left := w; left != 0; left &= left - 1 { // without its lowest 1
			if !yield(bits.TrailingZeros64(left)) {
				return
			}
		}
	}
}

// Apart tells whether all fields may be, and no two of them have a bit in common (P1.3).
func Apart(l ...api.Field) bool {
	apart, taken := true, uint64(0)
fields:
	for _, f := range l {
		s := spanOf(f)
		if !s.mayBe() {
			apart = false
			break fields
		}
		for at := range Bits(s.mask()) {
			if taken>>at&1 == 1 {
				apart = false
				break fields
			}
			taken |= 1 << at
		}
	}
	return apart
}
