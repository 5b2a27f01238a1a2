package place

import (
	"iter"

	"waterline/api"
)

// ends has how many lines there are, and how many words of a line.
var ends = [2]int{api.MaxLines, api.LineWords}

// moving is a place under way; it may have left the lines that there are.
type moving struct{ api.Place }

func (m moving) pair() [2]int { return [2]int{m.Line, m.Word} }

// number is the line and the word as one, so that both move at once; floats tell such small ones exactly.
func (m moving) number() complex128 { return complex(float64(m.Line), float64(m.Word)) }

func movingAt(z complex128) moving {
	return moving{api.Place{Line: int(real(z)), Word: int(imag(z))}}
}

// on is the place so many addresses behind; they are fewer than there are.
func (m moving) on(by int) moving {
	z := m.number() + complex(float64(by/api.LineWords), float64(by%api.LineWords))
	// Both words are less than a line, whichever their signs: one line at most is too many, or too few.
	switch {
	case imag(z) < 0:
		z += complex(-1, api.LineWords)
	case imag(z) >= api.LineWords:
		z += complex(1, -api.LineWords)
	}
	return movingAt(z)
}

// behind is how many addresses it lies behind another one.
func (m moving) behind(other moving) int {
	z := m.number() - other.number()
	return int(real(z))*api.LineWords + int(imag(z))
}

// each tells whether something holds of all in a list.
func each[T any](holds func(T) bool, l ...T) bool {
	for _, x := range l {
		if !holds(x) {
			return false
		}
	}
	return true
}

// stand tells whether all of them are places.
func stand(l ...moving) bool {
	return each(func(m moving) bool {
		for i, n := range m.pair() {
			if n < 0 || n >= ends[i] {
				return false
			}
		}
		return true
	}, l...)
}

// onward goes over all places from one on, as far as there are lines.
func onward(p api.Place) iter.Seq[api.Place] {
	return func(yield func(api.Place) bool) {
		for m := (moving{p}); stand(m); m = m.on(1) {
			if !yield(m.Place) {
				return
			}
		}
	}
}
