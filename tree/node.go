package tree

import (
	"maps"
	"slices"
	"strings"

	"waterline/api"
	"waterline/file"
	"waterline/label"
)

// names is where names lead.
type names map[string]*node

// rising tells names by their bytes.
func (l names) rising() []string {
	told, _ := label.Sorted(slices.Collect(maps.Keys(l))...) // nothing but names stands there
	return told
}

func (l names) mustBeEmpty() { mustBe(len(l) == 0, api.ErrFilled) }

// node is a file or a directory.
type node struct {
	names   // of a directory
	kind    api.InodeKind
	links   int    // how many names lead to it
	content []byte // of a file
}

// made tells a node to which no name leads as yet.
func made(k api.InodeKind) *node {
	mustBe(k == api.InodeFile || k == api.InodeDir, api.ErrArg)
	return &node{names: names{}, kind: k}
}

func (n *node) isDir() bool { return n.kind == api.InodeDir }

func (n *node) mustBeDir() { mustBe(n.isDir(), api.ErrNotDir) }

func (n *node) mustBeFile() { mustBe(!n.isDir(), api.ErrIsDir) }

// fill gives a file new bytes, that are not those handed in.
func (n *node) fill(b []byte) {
	n.mustBeFile()
	then, wrong := file.Write(nil, 0, b)
	mustGo(wrong)
	n.content = then
}

// next tells where a name leads.
func (n *node) next(name string) *node {
	n.mustBeDir()
	x := n.names[name]
	mustBe(x != nil, api.ErrNoEntry)
	return x
}

// alone tells another node of the same kind and bytes, to which no name leads, and without names.
func (n *node) alone() *node {
	x := made(n.kind)
	x.content = slices.Clone(n.content)
	return x
}

// alike tells whether two nodes are the same, but for where their names lead.
func alike(a, b *node) bool {
	return b != nil && a.kind == b.kind && a.links == b.links && len(a.names) == len(b.names) && slices.Equal(a.content, b.content)
}

// spot is a name in a directory, that leads to a node, or nowhere as yet.
type spot struct {
	*node
	name string
}

// held tells the node to which the name leads, or nil.
func (s spot) held() *node { return s.names[s.name] }

// take lets the name lead to a node.
func (s spot) take(n *node) {
	mustBe(s.held() == nil, api.ErrExists)
	mustBe(n.links < api.MaxLinks, api.ErrLinks)
	s.names[strings.Clone(s.name)] = n // it may be part of a long path, which is not kept
	n.links++
}

// leave lets the name lead nowhere.
func (s spot) leave() {
	s.held().links--
	delete(s.names, s.name)
}

// giveWay lets the name lead nowhere, if the node that it leads to, if any, may be replaced by n.
func (s spot) giveWay(n *node) {
	x := s.held()
	if x == nil {
		return
	}
	mustBe(x.isDir() || !n.isDir(), api.ErrNotDir)
	mustBe(n.isDir() || !x.isDir(), api.ErrIsDir)
	x.mustBeEmpty()
	s.leave()
}
