package node

import (
	"iter"
	"slices"

	"waterline/api"
)

// line is the words of a line.
type line [api.LineWords]uint64

// part is what some words of a line say of a T. What it writes is asked for only if it may be; what it reads gives up where the words say nothing.
type part[T any] struct {
	mayBe func(x T) bool
	write func(x T, l *line)
	read  func(l line, x *T)
}

// kind is a kind of line, by its parts; words that no part writes are nought.
type kind[T any] []part[T]

func (k kind[T]) parts() iter.Seq[part[T]] { return slices.Values(k) }

func (k kind[T]) mayBe(x T) bool {
	may := true
parts:
	for p := range k.parts() {
		if !p.mayBe(x) {
			may = false
			break parts
		}
	}
	return may
}

// put tells the words of a line that is x.
func (k kind[T]) put(x T) (line, api.Errno) {
	var l line
	if !k.mayBe(x) {
		goto refused
	}
	for p := range k.parts() {
		p.write(x, &l)
	}
	return l, api.OK
refused:
	return line{}, api.ErrArg
}

// get tells what a line of these words is. What was read is put again, so that nothing goes that no part has read.
func (k kind[T]) get(l line) (x T, wrong api.Errno) {
	defer func() {
		if _, is := recover().(noLine); is {
			var none T
			x, wrong = none, api.ErrNode
		}
	}()
	for p := range k.parts() {
		p.read(l, &x)
	}
	again, refused := k.put(x)
	mustBe(refused == api.OK && again == l)
	return x, api.OK
}

// noLine is what reading gives up with.
type noLine struct{}

func mustBe(is bool) {
	if !is {
		panic(noLine{})
	}
}

// bound is a number, and what it lies between.
type bound struct{ n, least, most int }

func within(l ...bound) bool {
	for _, b := range l {
		if b.n < b.least || b.n > b.most {
			return false
		}
	}
	return true
}
