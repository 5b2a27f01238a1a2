package word

import "waterline/api"

// masks has at each width the word whose lowest bits, so many, are 1.
var masks = [65]uint64{
	0x0,
	0x1, 0x3, 0x7, 0xf,
	0x1f, 0x3f, 0x7f, 0xff,
	0x1ff, 0x3ff, 0x7ff, 0xfff,
	0x1fff, 0x3fff, 0x7fff, 0xffff,
	0x1ffff, 0x3ffff, 0x7ffff, 0xfffff,
	0x1fffff, 0x3fffff, 0x7fffff, 0xffffff,
	0x1ffffff, 0x3ffffff, 0x7ffffff, 0xfffffff,
	0x1fffffff, 0x3fffffff, 0x7fffffff, 0xffffffff,
	0x1ffffffff, 0x3ffffffff, 0x7ffffffff, 0xfffffffff,
	0x1fffffffff, 0x3fffffffff, 0x7fffffffff, 0xffffffffff,
	0x1ffffffffff, 0x3ffffffffff, 0x7ffffffffff, 0xfffffffffff,
	0x1fffffffffff, 0x3fffffffffff, 0x7fffffffffff, 0xffffffffffff,
	0x1ffffffffffff, 0x3ffffffffffff, 0x7ffffffffffff, 0xfffffffffffff,
	0x1fffffffffffff, 0x3fffffffffffff, 0x7fffffffffffff, 0xffffffffffffff,
	0x1ffffffffffffff, 0x3ffffffffffffff, 0x7ffffffffffffff, 0xfffffffffffffff,
	0x1fffffffffffffff, 0x3fffffffffffffff, 0x7fffffffffffffff, 0xffffffffffffffff,
}

// span is the bits of a field, whatever the word. Its methods but mayBe ask only spans that may be.
type span struct{ from, wide int }

func spanOf(f api.Field) span { return span{from: f.From, wide: f.Wide} }

// mayBe asks each bound alone first: a sum of huge numbers would wrap round.
func (s span) mayBe() bool {
	return s.from >= 0 && s.from < wordBits && s.wide >= 1 && s.wide <= wordBits-s.from
}

func (s span) mask() uint64 { return masks[s.wide] << s.from }

func (s span) holds(n uint64) bool { return n&^masks[s.wide] == 0 }

// part is a field of one word.
type part struct {
	span
	word uint64
}

func (p part) number() uint64 { return (p.word & p.mask()) >> p.from }

func (p part) with(n uint64) uint64 { return (p.word &^ p.mask()) | (n << p.from) }
