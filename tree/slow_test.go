package tree_test

import (
	"bytes"
	"slices"
	"strings"

	"waterline/api"
	"waterline/tree"
)

// sampler makes the same numbers in each run.
type sampler uint64

func (s *sampler) next() uint64 {
	*s = *s*6364136223846793005 + 1442695040888963407
	return uint64(*s ^ *s>>29)
}

func (s *sampler) below(n int) int { return int(s.next() >> 1 % uint64(n)) }

func pick[T any](s *sampler, l ...T) T { return l[s.below(len(l))] }

// slowNode is a node, that does not know where it is.
type slowNode struct {
	kind  api.InodeKind
	bytes []byte
}

// slowTree is nodes by whole paths, as texts; the root's is empty.
type slowTree map[string]*slowNode

func slowNew() slowTree { return slowTree{"": {kind: api.InodeDir}} }

func slowIsName(s string) bool {
	for _, b := range []byte(s) {
		if b <= ' ' || b > '~' || b == '/' {
			return false
		}
	}
	return s != "" && s != "." && s != ".." && len(s) <= 40
}

// slowPath tells the text of a path by which a slow tree has it, and what is wrong with it.
func slowPath(s string) (string, api.Errno) {
	if s == "/" {
		return "", api.OK
	}
	parts := strings.Split(s, "/")
	if len(parts) < 2 || parts[0] != "" || len(parts) > 17 || slices.Contains(parts[1:], "") {
		return "", api.ErrPath
	}
	for _, n := range parts[1:] {
		if !slowIsName(n) {
			return "", api.ErrName
		}
	}
	return s, api.OK
}

func slowPaths(l ...string) ([]string, api.Errno) {
	var told []string
	for _, s := range l {
		p, wrong := slowPath(s)
		if wrong != api.OK {
			return nil, wrong
		}
		told = append(told, p)
	}
	return told, api.OK
}

func slowParent(p string) string { return p[:strings.LastIndexByte(p, '/')] }

// ahead tells what is wrong with the names ahead of the last one.
func (t slowTree) ahead(p string) api.Errno {
	for i := 1; i < len(p); i++ {
		if p[i] != '/' {
			continue
		}
		if n := t[p[:i]]; n == nil {
			return api.ErrNoEntry
		} else if n.kind == api.InodeFile {
			return api.ErrNotDir
		}
	}
	return api.OK
}

func (t slowTree) find(p string) (*slowNode, api.Errno) {
	wrong := t.ahead(p)
	if wrong == api.OK && t[p] == nil {
		wrong = api.ErrNoEntry
	}
	if wrong != api.OK {
		return nil, wrong
	}
	return t[p], api.OK
}

// below tells the paths that lie below one.
func (t slowTree) below(p string) []string {
	var l []string
	for q := range t {
		if strings.HasPrefix(q, p+"/") {
			l = append(l, q)
		}
	}
	slices.Sort(l)
	return l
}

func (t slowTree) links(n *slowNode) int {
	many := 0
	for _, x := range t {
		if x == n {
			many++
		}
	}
	return many
}

// slowStat is all that Kind, Links, Bytes and Names tell.
type slowStat struct {
	kind                 api.InodeKind
	links                int
	bytes                []byte
	names                []string
	wrong, file, listing api.Errno
}

func (t slowTree) stat(path string) slowStat {
	p, wrong := slowPath(path)
	var n *slowNode
	if wrong == api.OK {
		n, wrong = t.find(p)
	}
	if wrong != api.OK {
		return slowStat{wrong: wrong, file: wrong, listing: wrong}
	}
	x := slowStat{kind: n.kind, links: t.links(n)}
	if n.kind == api.InodeFile {
		x.bytes, x.listing = n.bytes, api.ErrNotDir
		return x
	}
	x.file = api.ErrIsDir
	for _, q := range t.below(p) {
		if slowParent(q) == p {
			x.names = append(x.names, q[len(p)+1:])
		}
	}
	return x
}

func (t slowTree) make(path string, k api.InodeKind) api.Errno {
	p, wrong := slowPath(path)
	if wrong != api.OK {
		return wrong
	}
	if k != api.InodeFile && k != api.InodeDir {
		return api.ErrArg
	}
	if wrong := t.ahead(p); wrong != api.OK {
		return wrong
	}
	if t[p] != nil {
		return api.ErrExists
	}
	t[p] = &slowNode{kind: k}
	return api.OK
}

func (t slowTree) put(path string, b []byte) api.Errno {
	p, wrong := slowPath(path)
	if wrong != api.OK {
		return wrong
	}
	n, wrong := t.find(p)
	if wrong != api.OK {
		return wrong
	}
	if n.kind == api.InodeDir {
		return api.ErrIsDir
	}
	if len(b) > 448 {
		return api.ErrBig
	}
	n.bytes = bytes.Clone(b)
	return api.OK
}

func (t slowTree) link(of, path string) api.Errno {
	p, wrong := slowPaths(of, path)
	if wrong != api.OK {
		return wrong
	}
	n, wrong := t.find(p[0])
	if wrong != api.OK {
		return wrong
	}
	if n.kind == api.InodeDir {
		return api.ErrIsDir
	}
	if wrong := t.ahead(p[1]); wrong != api.OK {
		return wrong
	}
	if t[p[1]] != nil {
		return api.ErrExists
	}
	if t.links(n) == 200 {
		return api.ErrLinks
	}
	t[p[1]] = n
	return api.OK
}

func (t slowTree) drop(path string) api.Errno {
	p, wrong := slowPath(path)
	if wrong != api.OK {
		return wrong
	}
	n, wrong := t.find(p)
	if wrong != api.OK {
		return wrong
	}
	if n.kind == api.InodeDir {
		return api.ErrIsDir
	}
	delete(t, p)
	return api.OK
}

func (t slowTree) remove(path string) api.Errno {
	p, wrong := slowPath(path)
	if wrong != api.OK {
		return wrong
	}
	if p == "" {
		return api.ErrRoot
	}
	n, wrong := t.find(p)
	if wrong != api.OK {
		return wrong
	}
	if n.kind == api.InodeFile {
		return api.ErrNotDir
	}
	if len(t.below(p)) > 0 {
		return api.ErrFilled
	}
	delete(t, p)
	return api.OK
}

func (t slowTree) move(from, to string) api.Errno {
	p, wrong := slowPaths(from, to)
	if wrong != api.OK {
		return wrong
	}
	if p[0] == "" || p[1] == "" {
		return api.ErrRoot
	}
	n, wrong := t.find(p[0])
	if wrong != api.OK {
		return wrong
	}
	if n.kind == api.InodeDir && strings.HasPrefix(p[1], p[0]+"/") {
		return api.ErrLoop
	}
	if wrong := t.ahead(p[1]); wrong != api.OK {
		return wrong
	}
	if x := t[p[1]]; x == n {
		return api.OK
	} else if x != nil && x.kind == api.InodeFile && n.kind == api.InodeDir {
		return api.ErrNotDir
	} else if x != nil && x.kind == api.InodeDir && n.kind == api.InodeFile {
		return api.ErrIsDir
	} else if len(t.below(p[1])) > 0 {
		return api.ErrFilled
	}
	for _, q := range append(t.below(p[0]), p[0]) {
		t[p[1]+q[len(p[0]):]] = t[q]
		delete(t, q)
	}
	return api.OK
}

func (t slowTree) rows() []api.Row {
	var l []api.Row
	for _, q := range t.below("") {
		r := api.Row{Path: q, Kind: t[q].kind, Bytes: t[q].bytes, First: q}
		for _, before := range l {
			if t[before.Path] == t[q] {
				r.First = before.First
			}
		}
		l = append(l, r)
	}
	return l
}

// slowOf tells whether rows are those of a tree, each looked at by itself.
func slowOf(l []api.Row) bool {
	at := map[string]api.Row{"": {Kind: api.InodeDir}}
	many := map[string]int{}
	last := ""
	for _, r := range l {
		cut := strings.LastIndexByte(r.Path, '/')
		if cut < 0 || at[r.Path[:cut]].Kind != api.InodeDir || !slowIsName(r.Path[cut+1:]) || r.Path <= last {
			return false
		}
		isDir := r.Kind == api.InodeDir && r.First == r.Path && len(r.Bytes) == 0
		isFile := r.Kind == api.InodeFile && r.First <= r.Path && len(r.Bytes) <= 448
		if isFile && r.First < r.Path {
			f, is := at[r.First]
			isFile = is && f.Kind == api.InodeFile && f.First == r.First && bytes.Equal(f.Bytes, r.Bytes)
		}
		many[r.First]++
		if !isDir && !isFile || many[r.First] > 200 {
			return false
		}
		at[r.Path], last = r, r.Path
	}
	return true
}

func gather(t *tree.Tree) []api.Row { return slices.Collect(t.Rows()) }

func sameRows(a, b []api.Row) bool {
	return slices.EqualFunc(a, b, func(x, y api.Row) bool {
		return x.Path == y.Path && x.Kind == y.Kind && bytes.Equal(x.Bytes, y.Bytes) && x.First == y.First
	})
}
