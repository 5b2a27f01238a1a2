package model

import (
	"slices"

	"waterline/api"
	"waterline/tree"
)

// refusal is what is given up with.
type refusal api.Errno

func mustGo(wrong api.Errno) {
	if wrong != api.OK {
		panic(refusal(wrong))
	}
}

func mustBe(is bool, wrong api.Errno) {
	if !is {
		mustGo(wrong)
	}
}

// told tells what is answered, unless something is wrong.
func told[T any](x T, wrong api.Errno) T {
	mustGo(wrong)
	return x
}

// tried tells what was wrong, if what is done gave up.
func tried(do func()) (wrong api.Errno) {
	defer func() {
		if why, gaveUp := recover().(refusal); gaveUp {
			wrong = api.Errno(why)
		}
	}()
	do()
	return api.OK
}

// mustBeRight looks at what an operation's Kind needs, and at nothing else that it has.
func mustBeRight(x api.Op) {
	mustBe(kinds()[x.Kind] != nil, api.ErrArg)
	mustBePath(x.Path)
	switch x.Kind {
	case api.OpRename, api.OpLink:
		mustBePath(x.To)
	case api.OpRead:
		mustNotBeBelow(x.At, x.N)
	case api.OpWrite:
		mustNotBeBelow(x.At)
		mustFit(x.At, len(x.Bytes))
	case api.OpCut:
		mustNotBeBelow(x.N)
		mustFit(x.N)
	}
}

// mustBePath asks a tree of a root alone: what is a path leads nowhere there, at worst.
func mustBePath(text string) {
	_, wrong := tree.New().Kind(text)
	mustBe(wrong == api.OK || wrong == api.ErrNoEntry, wrong)
}

func mustNotBeBelow(l ...int) {
	for _, n := range l {
		mustBe(n >= 0, api.ErrArg)
	}
}

// mustFit looks whether so many bytes behind one another fit into a file. It adds none of them up: a sum may be too great for a number.
func mustFit(l ...int) {
	left := api.MaxFile
	for _, n := range l {
		mustBe(n <= left, api.ErrBig)
		left -= n
	}
}

// sameNames tells whether two lists have the same names in the same order.
func sameNames(a, b []string) bool {
	same := len(a) == len(b)
names:
	for at, name := range slices.All(a) {
		same = same && name == b[at]
		if !same {
			break names
		}
	}
	return same
}
