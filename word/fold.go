package word

// fold leads what there is through a list, item by item.
func fold[S, T any](start S, l []T, step func(S, T) S) S {
	for _, x := range l {
		start = step(start, x)
	}
	return start
}

// needed tells how many words so many bytes have.
func needed(many int) int { return (many + wordBytes - 1) / wordBytes }

// joined tells the word of at most eight bytes, the lowest one ahead.
func joined(b []byte) uint64 {
	at := 0
	return fold(0, b, func(w uint64, x byte) uint64 {
		w |= uint64(x) << at
		at += 8
		return w
	})
}

// split tells all bytes of words.
func split(l []uint64) []byte {
	b := make([]byte, 0, wordBytes*len(l))
	return fold(b, l, func(b []byte, w uint64) []byte {
		for range wordBytes {
			b = append(b, byte(w))
			w >>= 8
		}
		return b
	})
}
