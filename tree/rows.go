package tree

import (
	"slices"
	"strings"

	"waterline/api"
	"waterline/label"
)

const slash = "/"

// step is a name on the way over a whole tree: the directory that has it, and the node to which it leads.
type step struct {
	in   *node
	name string
	*node
}

// turn is what comes on that way: a step, or, behind a slash, all steps below it.
type turn struct {
	step
	text string
}

func (x turn) isBelow() bool { return x.text != x.name }

// turns tells those of a directory, falling. A slash stands behind some bytes of names: what is below "a" comes behind "a!", though ahead of "a0".
func (n *node) turns() []turn {
	var l []turn
	for name, x := range n.names {
		s := step{n, name, x}
		l = append(l, turn{s, name})
		if x.isDir() {
			l = append(l, turn{s, name + slash})
		}
	}
	slices.SortFunc(l, func(a, b turn) int { return strings.Compare(b.text, a.text) })
	return l
}

// steps goes over all names below a directory, so that their paths rise as texts. It does not call itself: there is no bound to how deep they lie.
func (n *node) steps(yield func(step) bool) {
	left := n.turns()
	for len(left) > 0 {
		last := len(left) - 1
		next := left[last]
		left = left[:last]
		if next.isBelow() {
			left = append(left, next.turns()...)
		} else if !yield(next.step) {
			return
		}
	}
}

// least is the least path at which a node is: the first one on the way.
type least struct{ path string }

// rows goes over the rows of a tree that does not change meanwhile.
func (t *Tree) rows(yield func(api.Row) bool) {
	if !t.isThere() {
		return
	}
	known := map[*node]least{t.root: {}}
steps:
	for s := range t.root.steps {
		path := known[s.in].path + slash + s.name
		first, been := known[s.node]
		if !been {
			first = least{path}
			known[s.node] = first
		}
		if !yield(api.Row{Path: path, Kind: s.kind, Bytes: slices.Clone(s.content), First: first.path}) {
			break steps
		}
	}
}

func isRow(a, b api.Row) bool {
	return a.Path == b.Path && a.Kind == b.Kind && a.First == b.First && slices.Equal(a.Bytes, b.Bytes)
}

// growing is a tree that comes of rows: the nodes at the paths that were told so far. The root's has no name, and so no slash.
type growing map[string]*node

// grow lets a row's path lead to its node. It looks at no more than what it needs: the rows are told again.
func (g growing) grow(r api.Row) {
	cut := strings.LastIndex(r.Path, slash)
	mustBe(cut >= 0, api.ErrPath)
	dir, name := g[r.Path[:cut]], r.Path[cut+len(slash):]
	mustBe(dir != nil, api.ErrNoEntry)
	dir.mustBeDir()
	mustGo(label.Check(name))
	n := g[r.First]
	if r.First == r.Path {
		n = made(r.Kind)
		if len(r.Bytes) > 0 {
			n.fill(r.Bytes)
		}
	} else {
		mustBe(n != nil, api.ErrNoEntry)
		n.mustBeFile()
	}
	spot{dir, name}.take(n)
	g[r.Path] = n
}
