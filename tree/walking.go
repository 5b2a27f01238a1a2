package tree

import (
	"waterline/api"
	"waterline/path"
)

// refusal is what is given up with.
type refusal api.Errno

func mustGo(wrong api.Errno) {
	if wrong != api.OK {
		panic(refusal(wrong))
	}
}

func mustBe(is bool, wrong api.Errno) {
	if !is {
		mustGo(wrong)
	}
}

// split tells the names of a path.
func split(text string) []string {
	l, wrong := path.Split(text)
	mustGo(wrong)
	return l
}

// isWithin is asked of paths alone.
func isWithin(text, of string) bool {
	is, _ := path.Within(text, of)
	return is
}

// each does something with all things, one behind the other.
func each[T any](do func(T), l ...T) {
	for _, x := range l {
		do(x)
	}
}

func (t *Tree) isThere() bool { return t != nil && t.root != nil }

// tried tells what was wrong, if what is done gave up. That must do so ahead of what it changes.
func (t *Tree) tried(do func()) (wrong api.Errno) {
	defer func() {
		if why, gaveUp := recover().(refusal); gaveUp {
			wrong = api.Errno(why)
		}
	}()
	mustBe(t.isThere(), api.ErrNil)
	do()
	return api.OK
}

// told looks for the node at a path, and tells what is asked of it.
func told[T any](t *Tree, path string, ask func(n *node) T) (x T, wrong api.Errno) {
	wrong = t.tried(func() { x = ask(t.at(split(path)...)) })
	return x, wrong
}

// walking is a node on the way along names.
type walking struct{ *node }

func (w *walking) enter(name string) { w.node = w.next(name) }

// at looks for the node to which names lead from the root on.
func (t *Tree) at(names ...string) *node {
	w := walking{t.root}
	each(w.enter, names...)
	return w.node
}

// spot looks for the directory of the last one of the names, of which there must be one.
func (t *Tree) spot(names ...string) spot {
	last := len(names) - 1
	dir := t.at(names[:last]...)
	dir.mustBeDir()
	return spot{dir, names[last]}
}

// add lets names lead to a node. At the root, which has none, there is something.
func (t *Tree) add(n *node, names ...string) {
	mustBe(len(names) > 0, api.ErrExists)
	t.spot(names...).take(n)
}
