package label

import (
	"cmp"
	"iter"
	"slices"

	"waterline/api"
	"waterline/word"
)

const (
	lowest  = 33 // of a name's bytes
	highest = 126
)

// text is bytes that may be a name's.
type text string

func (t text) told() string { return string(t) }

// bytes goes over bytes, not letters: those out of words may be no UTF-8.
func (t text) bytes() iter.Seq[byte] { return slices.Values([]byte(t)) }

// naming is a name under way.
type naming struct{ text }

// named tells the name that a text is.
func named(name string) (naming, api.Errno) {
	if len(name) < 1 || len(name) > api.MaxName || name == "." || name == ".." {
		goto noName
	}
	for _, letter := range name { // what is no UTF-8 is told as a letter above the highest one
		if letter < lowest || letter > highest || letter == '/' {
			goto noName
		}
	}
	return naming{text(name)}, api.OK
noName:
	return naming{}, api.ErrName
}

// words is asked of names alone: they are never too long for the layer below.
func (n naming) words() [5]uint64 {
	var l [5]uint64
	few, _ := word.Words([]byte(n.text))
	copy(l[:], few)
	return l
}

// held is all bytes of words, those behind a name too.
func held(l [5]uint64) naming {
	b, _ := word.Bytes(l[:], api.MaxName) // as many as five words have
	return naming{text(b)}
}

// first is the first bytes, so many, or all if there are fewer.
func (n naming) first(many int) naming {
	var b []byte
bytes:
	for x := range n.bytes() {
		if len(b) >= many {
			break bytes
		}
		b = append(b, x)
	}
	return naming{text(b)}
}

// rising tells what each thing tells, sorted, each once.
func rising[T any, K cmp.Ordered](l []T, tell func(T) K) []K {
	keys := make([]K, 0, len(l))
	for _, x := range l {
		keys = append(keys, tell(x))
	}
	slices.Sort(keys)
	return slices.Compact(keys)
}
