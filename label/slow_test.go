package label

import (
	"math/big"
	"strings"
)

// sampler makes the same numbers in each run.
type sampler uint64

func (s *sampler) next() uint64 {
	*s = *s*6364136223846793005 + 1442695040888963407
	return uint64(*s ^ *s>>29)
}

func (s *sampler) below(n int) int { return int(s.next() >> 1 % uint64(n)) }

// mayStand is all bytes of names, written out.
const mayStand = "!\"#$%&'()*+,-.0123456789:;<=>?@ABCDEFGHIJKLMNOPQRSTUVWXYZ[\\]^_`abcdefghijklmnopqrstuvwxyz{|}~"

// name makes a name of so many bytes.
func (s *sampler) name(many int) string {
	for {
		b := make([]byte, many)
		for i := range b {
			b[i] = mayStand[s.below(len(mayStand))]
		}
		if n := string(b); n != "." && n != ".." {
			return n
		}
	}
}

func slowIsName(s string) bool {
	for _, b := range []byte(s) {
		if strings.IndexByte(mayStand, b) < 0 {
			return false
		}
	}
	return s != "" && len(s) < 41 && s != "." && s != ".."
}

// slowWords puts each byte where it belongs by sums and products.
func slowWords(s string) [5]uint64 {
	var l [5]uint64
	for i := range 40 {
		b := byte(0)
		if i < len(s) {
			b = s[i]
		}
		worth := uint64(1)
		for range i % 8 {
			worth *= 256
		}
		l[i/8] += worth * uint64(b)
	}
	return l
}

// slowRead takes bytes out of words one by one, and asks of all those behind whether they are nought.
func slowRead(l [5]uint64, many int) (string, bool) {
	var s strings.Builder
	for i := range 40 {
		b := byte(l[i/8])
		l[i/8] /= 256
		if i < many {
			s.WriteByte(b)
		} else if b != 0 {
			return "", false
		}
	}
	if s.Len() != many || !slowIsName(s.String()) {
		return "", false
	}
	return s.String(), true
}

// slowBucket works by whole numbers of any size.
func slowBucket(s string) int {
	prime, _ := new(big.Int).SetString("1099511628211", 10)
	modulus := new(big.Int).Lsh(big.NewInt(1), 64)
	n, _ := new(big.Int).SetString("14695981039346656037", 10)
	l := slowWords(s)
	needed := l[:(len(s)+7)/8]
	for _, w := range append(needed[:len(needed):len(needed)], uint64(len(s))) {
		n.Xor(n, new(big.Int).SetUint64(w))
		n.Mul(n, prime)
		n.Mod(n, modulus)
	}
	return int(n.Mod(n, big.NewInt(7)).Int64())
}

// slowSorted takes the least of what is left, again and again.
func slowSorted(names []string) []string {
	var told []string
	for {
		least, found := "", false
		for _, n := range names {
			behind := len(told) == 0 || n > told[len(told)-1]
			if behind && (!found || n < least) {
				least, found = n, true
			}
		}
		if !found {
			return told
		}
		told = append(told, least)
	}
}
