package pmem

import "waterline/api"

// line is the words of a line.
type line [api.LineWords]uint64

// memory is words, line by line.
type memory []line

// beyond tells what is wrong with a line's number.
func (m memory) beyond(n int) api.Errno {
	if n < 0 || n >= len(m) {
		return api.ErrRange
	}
	return api.OK
}

func (m memory) word(p api.Place) uint64 { return m[p.Line][p.Word] }

func (m memory) put(p api.Place, w uint64) { m[p.Line][p.Word] = w }

// unlike tells how many lines are not those of a memory of as many.
func (m memory) unlike(other memory) int {
	many := 0
	for n, l := range m {
		if l != other[n] {
			many++
		}
	}
	return many
}

// seen is the memory that loads tell, and stores change.
type seen struct{ memory }

// waiting is a line that waits, and its words as they were when it was flushed.
type waiting struct {
	line  int
	words line
}

// first tells what the first question says that does not say fine. Those behind it are not asked: they may lean on it.
func first[A comparable](fine A, asks ...func() A) A {
	for _, ask := range asks {
		if a := ask(); a != fine {
			return a
		}
	}
	return fine
}
