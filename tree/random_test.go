package tree_test

import (
	"bytes"
	"slices"
	"strings"
	"testing"

	"waterline/api"
	"waterline/tree"
)

// deed is a change of a tree.
type deed struct {
	what     string
	path, to string
	kind     api.InodeKind
	bytes    []byte
}

func (d deed) do(t *tree.Tree) api.Errno {
	switch d.what {
	case "make":
		return t.Make(d.path, d.kind)
	case "put":
		return t.Put(d.path, d.bytes)
	case "link":
		return t.Link(d.path, d.to)
	case "drop":
		return t.Drop(d.path)
	case "remove":
		return t.Remove(d.path)
	}
	return t.Move(d.path, d.to)
}

func (d deed) slowDo(t slowTree) api.Errno {
	switch d.what {
	case "make":
		return t.make(d.path, d.kind)
	case "put":
		return t.put(d.path, d.bytes)
	case "link":
		return t.link(d.path, d.to)
	case "drop":
		return t.drop(d.path)
	case "remove":
		return t.remove(d.path)
	}
	return t.move(d.path, d.to)
}

// isDone does one change to both trees; it tells whether that was refused.
func isDone(t *testing.T, d deed, x *tree.Tree, slow slowTree) bool {
	t.Helper()
	before := told(x)
	e, want := d.do(x), d.slowDo(slow)
	if e != want {
		t.Fatalf("%v to %q tells %d, not %d", d, before, e, want)
	}
	if l := gather(x); !sameRows(l, slow.rows()) {
		t.Fatalf("%v makes of %q the rows %q", d, before, told(x))
	}
	if e != api.OK && told(x) != before {
		t.Fatalf("%v is refused, and makes of %q the rows %q", d, before, told(x))
	}
	return e != api.OK
}

func isStat(t *testing.T, path string, x *tree.Tree, slow slowTree) {
	t.Helper()
	want := slow.stat(path)
	k, e1 := x.Kind(path)
	n, e2 := x.Links(path)
	b, e3 := x.Bytes(path)
	l, e4 := x.Names(path)
	if k != want.kind || n != want.links || !bytes.Equal(b, want.bytes) || !slices.Equal(l, want.names) || e1 != want.wrong || e2 != want.wrong || e3 != want.file || e4 != want.listing {
		t.Fatalf("of %q in %q: %d %d %q %q, %d %d %d %d", path, told(x), k, n, b, l, e1, e2, e3, e4)
	}
}

// path makes a path: of what is there, or mostly in a directory; now and then one that is none.
func (s *sampler) path(slow slowTree) string {
	there := append(slow.below(""), "")
	p := pick(s, there...)
	if s.below(2) == 0 {
		p = pick(s, slices.DeleteFunc(there, func(q string) bool { return slow[q].kind == file })...) + "/" + s.name()
	}
	for s.below(8) == 0 {
		p += "/" + s.name()
	}
	if s.below(60) == 0 {
		p += pick(s, "/", "//a", "/..", "/ ", "\xff")
	}
	if p == "" {
		return "/"
	}
	return p
}

func (s *sampler) name() string { return pick(s, "a", "b", "a!", "a0", "c") }

func (s *sampler) deed(slow slowTree) deed {
	d := deed{what: pick(s, "make", "make", "make", "make", "put", "link", "link", "drop", "remove", "move", "move"), path: s.path(slow), to: s.path(slow)}
	d.kind = pick(s, file, dir, dir)
	if s.below(50) == 0 {
		d.kind = pick[api.InodeKind](s, -1, 0, 3)
	}
	d.bytes = bytes.Repeat([]byte{byte('0' + s.below(10))}, pick(s, 0, 1, 2, 3, 448, 449))
	return d
}

// TestAtRandom does changes to a tree and to a slow one.
func TestAtRandom(t *testing.T) {
	for seed := range 40 {
		s := sampler(seed)
		x, slow := tree.New(), slowNew()
		refused := 0
		for range 300 {
			d := s.deed(slow)
			if isDone(t, d, x, slow) {
				refused++
			}
			isStat(t, d.path, x, slow)
			isStat(t, d.to, x, slow)
			isStat(t, s.path(slow), x, slow)
		}
		if refused < 30 || refused > 270 || len(gather(x)) < 5 {
			t.Fatal("of 300 changes were refused", refused)
		}
		rows := gather(x)
		isOf(t, rows)
		if y, e := tree.Of(rows...); e != api.OK || !tree.Same(x, y) || !tree.Same(y, x) || !tree.Same(x.Copy(), y) {
			t.Fatal("another tree of the same rows", told(x))
		}
	}
}

// TestParentsAndCopies asks of each row's parent whether it is there, and goes on with a copy from time to time.
func TestParentsAndCopies(t *testing.T) {
	s := sampler(7)
	x, slow := tree.New(), slowNew()
	for n := range 2000 {
		isDone(t, s.deed(slow), x, slow)
		if n%40 > 0 {
			continue
		}
		kinds := map[string]api.InodeKind{"": dir}
		for r := range x.Rows() {
			kinds[r.Path] = r.Kind
			if kinds[r.Path[:strings.LastIndexByte(r.Path, '/')]] != dir {
				t.Fatal(r.Path, "has no directory ahead:", told(x))
			}
		}
		x = x.Copy()
	}
}

// deeds tells all changes at few paths.
func deeds() []deed {
	paths := []string{"/", "/a", "/b", "/a/a", "/a/b"}
	var l []deed
	for _, p := range paths {
		l = append(l, deed{what: "make", path: p, kind: file}, deed{what: "make", path: p, kind: dir}, deed{what: "put", path: p, bytes: []byte("x")}, deed{what: "drop", path: p}, deed{what: "remove", path: p})
		for _, q := range paths {
			l = append(l, deed{what: "link", path: p, to: q}, deed{what: "move", path: p, to: q})
		}
	}
	return l
}

// TestAllChanges does all changes to all trees that come of a few.
func TestAllChanges(t *testing.T) {
	seen := map[string]int{}
	now := [][]deed{nil}
	for range 6 {
		var next [][]deed
		for _, done := range now {
			for _, d := range deeds() {
				x, slow := tree.New(), slowNew()
				for _, before := range done {
					before.do(x)
					before.slowDo(slow)
				}
				isDone(t, d, x, slow)
				if seen[told(x)]++; seen[told(x)] == 1 {
					next = append(next, append(slices.Clone(done), d))
				}
			}
		}
		now = next
	}
	if len(seen) < 50 {
		t.Error("no more trees than", len(seen))
	}
	for _, done := range now {
		x := tree.New()
		for _, d := range done {
			d.do(x)
		}
		for _, other := range now {
			y := tree.New()
			for _, d := range other {
				d.do(y)
			}
			if tree.Same(x, y) != (told(x) == told(y)) {
				t.Fatal(told(x), "and", told(y))
			}
		}
	}
}
