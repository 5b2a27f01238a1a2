package tree_test

import (
	"bytes"
	"math"
	"slices"
	"strconv"
	"strings"
	"testing"

	"waterline/api"
	"waterline/tree"
)

const (
	file = api.InodeFile
	dir  = api.InodeDir
)

var (
	long = strings.Repeat("n", 40)
	deep = strings.Repeat("/a", 16) // as many names as a path may have
)

// of makes a tree of paths, each of a directory if a slash is behind it.
func of(t *testing.T, paths ...string) *tree.Tree {
	t.Helper()
	x := tree.New()
	for _, p := range paths {
		k := file
		if strings.HasSuffix(p, "/") {
			p, k = p[:len(p)-1], dir
		}
		if e := x.Make(p, k); e != api.OK {
			t.Fatalf("Make(%q) tells %d", p, e)
		}
	}
	return x
}

// some is a tree of a file, one of two names, an empty directory, a filled one.
func some(t *testing.T) *tree.Tree {
	t.Helper()
	x := of(t, "/f", "/d/", "/d/e/", "/d/g", "/z/")
	for _, e := range []api.Errno{x.Put("/f", []byte("hi")), x.Put("/d/g", []byte("ho")), x.Link("/d/g", "/l")} {
		if e != api.OK {
			t.Fatal(e)
		}
	}
	return x
}

// told writes rows short: path, bytes of a file, first path if it is another one.
func told(x *tree.Tree) string {
	var l []string
	for r := range x.Rows() {
		s := r.Path
		if r.Kind == dir {
			s += "/"
		}
		s += string(r.Bytes)
		if r.First != r.Path {
			s += "=" + r.First
		}
		l = append(l, s)
	}
	return strings.Join(l, " ")
}

func isTold(t *testing.T, x *tree.Tree, want string) {
	t.Helper()
	if s := told(x); s != want {
		t.Errorf("rows %q, not %q", s, want)
	}
}

func are(t *testing.T, got []api.Errno, want ...api.Errno) {
	t.Helper()
	if !slices.Equal(got, want) {
		t.Errorf("%v, not %v", got, want)
	}
}

func TestExamples(t *testing.T) {
	x := tree.New()
	are(t, []api.Errno{x.Make("/d", dir), x.Make("/d/f", file), x.Make("/x/f", file), x.Put("/d/f", []byte("hi")), x.Link("/d/f", "/g")}, api.OK, api.OK, api.ErrNoEntry, api.OK, api.OK)
	if n, e := x.Links("/g"); n != 2 || e != api.OK {
		t.Error(n, e)
	}
	if l, e := x.Names("/"); !slices.Equal(l, []string{"d", "g"}) || e != api.OK {
		t.Error(l, e)
	}
	if b, e := x.Bytes("/g"); string(b) != "hi" || e != api.OK {
		t.Error(b, e)
	}
	are(t, []api.Errno{x.Remove("/d"), x.Drop("/d"), x.Move("/d", "/d/e"), x.Move("/g", "/d"), x.Move("/g", "/d/f"), x.Drop("/d/f"), x.Remove("/d")},
		api.ErrFilled, api.ErrIsDir, api.ErrLoop, api.ErrIsDir, api.OK, api.OK, api.OK)
	if k, e := x.Kind("/d/f/x"); k != api.InodeNone || e != api.ErrNoEntry {
		t.Error(k, e)
	}
	isTold(t, x, "/ghi")
	if l := gather(x); !sameRows(l, []api.Row{{Path: "/g", Kind: file, Bytes: []byte("hi"), First: "/g"}}) {
		t.Error(l)
	}
}

// wrongPaths are texts that are no paths, and what is told of each.
func wrongPaths() map[string]api.Errno {
	return map[string]api.Errno{
		"": api.ErrPath, "f": api.ErrPath, "d/e": api.ErrPath, "//": api.ErrPath, "/d/": api.ErrPath, "/d//e": api.ErrPath, "//f": api.ErrPath, "/./": api.ErrPath, "/../": api.ErrPath,
		"f/..": api.ErrPath, deep + "/a": api.ErrPath, strings.Repeat("/..", 17): api.ErrPath, strings.Repeat("/", 100000): api.ErrPath, "\xff": api.ErrPath, "\x00": api.ErrPath,
		"/.": api.ErrName, "/..": api.ErrName, "/d/..": api.ErrName, "/ ": api.ErrName, "/f\x00": api.ErrName, "/\xff": api.ErrName, "/é": api.ErrName, "/d/\x7f": api.ErrName,
		"/" + long + "n": api.ErrName, "/d/" + long + "n/x": api.ErrName, "/" + strings.Repeat("n", 100000): api.ErrName, deep[2:] + "/..": api.ErrName,
	}
}

func TestWrongPaths(t *testing.T) {
	x := some(t)
	before := told(x)
	for p, wrong := range wrongPaths() {
		k, e1 := x.Kind(p)
		n, e2 := x.Links(p)
		b, e3 := x.Bytes(p)
		l, e4 := x.Names(p)
		if k != 0 || n != 0 || b != nil || l != nil {
			t.Error(p, k, n, b, l)
		}
		told := []api.Errno{
			e1, e2, e3, e4,
			x.Make(p, file), x.Make(p, dir), x.Make(p, 0), x.Make(p, -1), x.Put(p, nil), x.Put(p, make([]byte, 449)), x.Drop(p), x.Remove(p),
			x.Link(p, "/x"), x.Link("/f", p), x.Link("/x", p), x.Link("/d", p), x.Link("/", p), x.Link(p, "/"), x.Link(p, "/f"), x.Link("/f/x", p),
			x.Move(p, "/x"), x.Move("/f", p), x.Move("/x", p), x.Move("/", p), x.Move(p, "/"), x.Move("/f/x", p), x.Move(p, "/f/x"),
		}
		for i, e := range told {
			if e != wrong {
				t.Errorf("%d: %.50q tells %d, not %d", i, p, e, wrong)
			}
		}
		for other, first := range wrongPaths() { // what is wrong with the first is told ahead
			are(t, []api.Errno{x.Link(other, p), x.Move(other, p)}, first, first)
		}
	}
	isTold(t, x, before)
}

// TestWhatIsAsked asks all of nodes of each kind, and where there is none.
func TestWhatIsAsked(t *testing.T) {
	x := some(t)
	rows := []struct {
		path                 string
		kind                 api.InodeKind
		links                int
		bytes                string
		names                []string
		wrong, file, listing api.Errno
	}{
		{"/", dir, 1, "", []string{"d", "f", "l", "z"}, api.OK, api.ErrIsDir, api.OK},
		{"/f", file, 1, "hi", nil, api.OK, api.OK, api.ErrNotDir},
		{"/d", dir, 1, "", []string{"e", "g"}, api.OK, api.ErrIsDir, api.OK},
		{"/d/e", dir, 1, "", nil, api.OK, api.ErrIsDir, api.OK},
		{"/d/g", file, 2, "ho", nil, api.OK, api.OK, api.ErrNotDir},
		{"/l", file, 2, "ho", nil, api.OK, api.OK, api.ErrNotDir},
		{"/x", 0, 0, "", nil, api.ErrNoEntry, api.ErrNoEntry, api.ErrNoEntry},
		{"/d/x", 0, 0, "", nil, api.ErrNoEntry, api.ErrNoEntry, api.ErrNoEntry},
		{"/x/f", 0, 0, "", nil, api.ErrNoEntry, api.ErrNoEntry, api.ErrNoEntry},
		{"/x/x/x", 0, 0, "", nil, api.ErrNoEntry, api.ErrNoEntry, api.ErrNoEntry},
		{"/d/x/g", 0, 0, "", nil, api.ErrNoEntry, api.ErrNoEntry, api.ErrNoEntry},
		{"/f/x", 0, 0, "", nil, api.ErrNotDir, api.ErrNotDir, api.ErrNotDir},
		{"/f/f", 0, 0, "", nil, api.ErrNotDir, api.ErrNotDir, api.ErrNotDir},
		{"/f/x/x", 0, 0, "", nil, api.ErrNotDir, api.ErrNotDir, api.ErrNotDir},
		{"/d/g/e", 0, 0, "", nil, api.ErrNotDir, api.ErrNotDir, api.ErrNotDir},
		{"/D", 0, 0, "", nil, api.ErrNoEntry, api.ErrNoEntry, api.ErrNoEntry},
		{deep, 0, 0, "", nil, api.ErrNoEntry, api.ErrNoEntry, api.ErrNoEntry},
		{"/f" + deep[2:], 0, 0, "", nil, api.ErrNotDir, api.ErrNotDir, api.ErrNotDir},
	}
	for _, r := range rows {
		if k, e := x.Kind(r.path); k != r.kind || e != r.wrong {
			t.Errorf("Kind(%q) = %d, %d", r.path, k, e)
		}
		if n, e := x.Links(r.path); n != r.links || e != r.wrong {
			t.Errorf("Links(%q) = %d, %d", r.path, n, e)
		}
		if b, e := x.Bytes(r.path); string(b) != r.bytes || e != r.file {
			t.Errorf("Bytes(%q) = %q, %d", r.path, b, e)
		}
		if l, e := x.Names(r.path); !slices.Equal(l, r.names) || e != r.listing {
			t.Errorf("Names(%q) = %q, %d", r.path, l, e)
		}
	}
}

func TestNamesRise(t *testing.T) {
	x := tree.New()
	var names []string
	for b := '!'; b <= '~'; b++ {
		for _, n := range []string{string(b), "a" + string(b), string(b) + "b"} {
			if x.Make("/"+n, file) == api.OK {
				names = append(names, n)
			}
		}
	}
	slices.Sort(names)
	if l, e := x.Names("/"); !slices.Equal(l, names) || len(l) < 270 || e != api.OK {
		t.Error(l, e)
	}
}

func TestMake(t *testing.T) {
	x := some(t)
	before := told(x)
	for _, k := range []api.InodeKind{0, 3, -1, 258, math.MaxInt, math.MinInt} {
		are(t, []api.Errno{x.Make("/x", k), x.Make("/f", k), x.Make("/", k), x.Make("/x/x", k), x.Make("/f/x", k)}, api.ErrArg, api.ErrArg, api.ErrArg, api.ErrArg, api.ErrArg)
	}
	for _, k := range []api.InodeKind{file, dir} {
		are(t, []api.Errno{x.Make("/", k), x.Make("/f", k), x.Make("/d", k), x.Make("/d/e", k), x.Make("/l", k)}, api.ErrExists, api.ErrExists, api.ErrExists, api.ErrExists, api.ErrExists)
		are(t, []api.Errno{x.Make("/f/x", k), x.Make("/d/g/x", k), x.Make("/f/x/y", k), x.Make("/x/y", k), x.Make("/d/x/y/z", k)}, api.ErrNotDir, api.ErrNotDir, api.ErrNotDir, api.ErrNoEntry, api.ErrNoEntry)
	}
	isTold(t, x, before)
	are(t, []api.Errno{x.Make("/z/x", dir), x.Make("/z/x/y", file), x.Make("/"+long, file)}, api.OK, api.OK, api.OK)
	isTold(t, x, "/d/ /d/e/ /d/gho /fhi /lho=/d/g /"+long+" /z/ /z/x/ /z/x/y")
	for n := 2; n < 32; n += 2 {
		are(t, []api.Errno{x.Make(deep[:n], dir)}, api.OK)
	}
	are(t, []api.Errno{x.Make(deep, dir), x.Make(deep+"/a", dir), x.Make(deep[:30]+"/b", file)}, api.OK, api.ErrPath, api.OK)
}

func TestPut(t *testing.T) {
	x := some(t)
	before := told(x)
	small, big := []byte("x"), make([]byte, 449)
	are(t, []api.Errno{x.Put("/", small), x.Put("/d", small), x.Put("/d/e", small), x.Put("/", big), x.Put("/d", big)}, api.ErrIsDir, api.ErrIsDir, api.ErrIsDir, api.ErrIsDir, api.ErrIsDir)
	are(t, []api.Errno{x.Put("/x", big), x.Put("/x/y", big), x.Put("/f/y", big), x.Put("/f", big), x.Put("/f", make([]byte, 100000))}, api.ErrNoEntry, api.ErrNoEntry, api.ErrNotDir, api.ErrBig, api.ErrBig)
	isTold(t, x, before)
	s := sampler(1)
	for _, size := range []int{448, 0, 1, 447, 64, 65, 448, 3, 0} {
		b := make([]byte, size, size+10)
		for i := range b {
			b[i] = byte(s.next())
		}
		want := bytes.Clone(b)
		if e := x.Put("/l", b); e != api.OK {
			t.Fatal(size, e)
		}
		clear(b[:cap(b)])
		for _, p := range []string{"/l", "/d/g"} {
			got, e := x.Bytes(p)
			if !bytes.Equal(got, want) || e != api.OK {
				t.Error(size, p, got, e)
			}
			clear(got)
		}
		if got, e := x.Bytes("/f"); string(got) != "hi" || e != api.OK {
			t.Error(got, e)
		}
	}
	are(t, []api.Errno{x.Put("/f", nil)}, api.OK)
	isTold(t, x, "/d/ /d/e/ /d/g /f /l=/d/g /z/")
}

func TestPutStays(t *testing.T) {
	x := some(t)
	room := []byte("abcdef")
	are(t, []api.Errno{x.Put("/f", room[:3]), x.Put("/f", room[1:3])}, api.OK, api.OK)
	if string(room) != "abcdef" {
		t.Error(string(room))
	}
	l, _ := x.Names("/")
	l[0] = "x"
	isTold(t, x, "/d/ /d/e/ /d/gho /fbc /lho=/d/g /z/")
}

func TestLink(t *testing.T) {
	x := some(t)
	before := told(x)
	are(t, []api.Errno{x.Link("/x", "/y"), x.Link("/x/y", "/y"), x.Link("/f/x", "/y"), x.Link("/d", "/y"), x.Link("/", "/y")}, api.ErrNoEntry, api.ErrNoEntry, api.ErrNotDir, api.ErrIsDir, api.ErrIsDir)
	are(t, []api.Errno{x.Link("/d", "/f/x"), x.Link("/d", "/d/x"), x.Link("/x", "/f"), x.Link("/x", "/f/x"), x.Link("/f/x", "/x/y")}, api.ErrIsDir, api.ErrIsDir, api.ErrNoEntry, api.ErrNoEntry, api.ErrNotDir)
	are(t, []api.Errno{x.Link("/f", "/"), x.Link("/f", "/f"), x.Link("/f", "/d"), x.Link("/l", "/d/g"), x.Link("/f", "/f/x")}, api.ErrExists, api.ErrExists, api.ErrExists, api.ErrExists, api.ErrNotDir)
	are(t, []api.Errno{x.Link("/f", "/x/y"), x.Link("/f", "/l/y"), x.Link("/f", "/d/x/y")}, api.ErrNoEntry, api.ErrNotDir, api.ErrNoEntry)
	isTold(t, x, before)
	are(t, []api.Errno{x.Link("/l", "/d/e/a"), x.Link("/d/e/a", "/a")}, api.OK, api.OK)
	isTold(t, x, "/aho /d/ /d/e/ /d/e/aho=/a /d/gho=/a /fhi /lho=/a /z/")
}

func TestLinksBound(t *testing.T) {
	x := of(t, "/f", "/d/")
	for n := 2; n <= 200; n++ {
		if e := x.Link("/f", "/d/"+strconv.Itoa(n)); e != api.OK {
			t.Fatal(n, e)
		}
		if many, e := x.Links("/d/2"); many != n || e != api.OK {
			t.Fatal(n, many, e)
		}
	}
	before := told(x)
	are(t, []api.Errno{x.Link("/f", "/x"), x.Link("/d/200", "/d/201"), x.Link("/f", "/d"), x.Link("/f", "/f"), x.Link("/f", "/")}, api.ErrLinks, api.ErrLinks, api.ErrExists, api.ErrExists, api.ErrExists)
	are(t, []api.Errno{x.Link("/f", "/x/y"), x.Link("/f", "/f/y"), x.Make("/x", file), x.Drop("/x")}, api.ErrNoEntry, api.ErrNotDir, api.OK, api.OK)
	isTold(t, x, before)
	are(t, []api.Errno{x.Move("/f", "/g"), x.Link("/g", "/h"), x.Drop("/d/77"), x.Link("/g", "/h"), x.Link("/g", "/i")}, api.OK, api.ErrLinks, api.OK, api.OK, api.ErrLinks)
	are(t, []api.Errno{x.Make("/j", file), x.Move("/j", "/h"), x.Link("/g", "/i"), x.Link("/g", "/k")}, api.OK, api.OK, api.OK, api.ErrLinks)
	if many, e := x.Links("/i"); many != 200 || e != api.OK {
		t.Error(many, e)
	}
}

func TestDrop(t *testing.T) {
	x := some(t)
	before := told(x)
	are(t, []api.Errno{x.Drop("/"), x.Drop("/d"), x.Drop("/d/e"), x.Drop("/z"), x.Drop("/x")}, api.ErrIsDir, api.ErrIsDir, api.ErrIsDir, api.ErrIsDir, api.ErrNoEntry)
	are(t, []api.Errno{x.Drop("/x/y"), x.Drop("/f/y"), x.Drop("/f/x/y"), x.Drop("/d/x/y")}, api.ErrNoEntry, api.ErrNotDir, api.ErrNotDir, api.ErrNoEntry)
	isTold(t, x, before)
	are(t, []api.Errno{x.Drop("/d/g")}, api.OK)
	isTold(t, x, "/d/ /d/e/ /fhi /lho /z/")
	if many, e := x.Links("/l"); many != 1 || e != api.OK {
		t.Error(many, e)
	}
	are(t, []api.Errno{x.Drop("/l"), x.Drop("/l"), x.Make("/l", file)}, api.OK, api.ErrNoEntry, api.OK)
	isTold(t, x, "/d/ /d/e/ /fhi /l /z/")
}

func TestRemove(t *testing.T) {
	x := some(t)
	before := told(x)
	are(t, []api.Errno{x.Remove("/"), x.Remove("/f"), x.Remove("/l"), x.Remove("/f/x"), x.Remove("/d/g/x/y")}, api.ErrRoot, api.ErrNotDir, api.ErrNotDir, api.ErrNotDir, api.ErrNotDir)
	are(t, []api.Errno{x.Remove("/x"), x.Remove("/x/y"), x.Remove("/d/x"), x.Remove("/d")}, api.ErrNoEntry, api.ErrNoEntry, api.ErrNoEntry, api.ErrFilled)
	isTold(t, x, before)
	are(t, []api.Errno{x.Remove("/z"), x.Remove("/d/e"), x.Remove("/d"), x.Drop("/d/g"), x.Remove("/d"), x.Remove("/d")}, api.OK, api.OK, api.ErrFilled, api.OK, api.OK, api.ErrNoEntry)
	isTold(t, x, "/fhi /lho")
	are(t, []api.Errno{tree.New().Remove("/")}, api.ErrRoot)
}

func TestMoveRefused(t *testing.T) {
	x := some(t)
	before := told(x)
	rows := []struct {
		from, to string
		wrong    api.Errno
	}{
		{"/", "/", api.ErrRoot}, {"/", "/x", api.ErrRoot}, {"/f", "/", api.ErrRoot}, {"/d", "/", api.ErrRoot}, {"/x", "/", api.ErrRoot}, {"/f/x", "/", api.ErrRoot}, {"/", "/f/x", api.ErrRoot},
		{"/x", "/y", api.ErrNoEntry}, {"/x", "/x", api.ErrNoEntry}, {"/x", "/x/y", api.ErrNoEntry}, {"/x/y", "/f/x", api.ErrNoEntry}, {"/f/x", "/x/y", api.ErrNotDir}, {"/f/x", "/f/x/y", api.ErrNotDir}, {"/f/x/y", "/z", api.ErrNotDir},
		{"/d", "/d/x", api.ErrLoop}, {"/d", "/d/e", api.ErrLoop}, {"/d", "/d/g", api.ErrLoop}, {"/d", "/d/g/x", api.ErrLoop}, {"/d", "/d/x/y", api.ErrLoop}, {"/d/e", "/d/e/x/y/z", api.ErrLoop}, {"/z", "/z/z", api.ErrLoop},
		{"/f", "/f/x", api.ErrNotDir}, {"/f", "/f/x/y", api.ErrNotDir}, {"/f", "/l/x", api.ErrNotDir}, {"/d", "/f/x", api.ErrNotDir}, {"/f", "/x/y", api.ErrNoEntry}, {"/d", "/x/y", api.ErrNoEntry}, {"/d", "/z/x/y", api.ErrNoEntry},
		{"/d", "/f", api.ErrNotDir}, {"/z", "/f", api.ErrNotDir}, {"/d/e", "/d/g", api.ErrNotDir}, {"/f", "/z", api.ErrIsDir}, {"/f", "/d", api.ErrIsDir}, {"/d/g", "/d", api.ErrIsDir}, {"/d/g", "/d/e", api.ErrIsDir},
		{"/z", "/d", api.ErrFilled}, {"/d/e", "/d", api.ErrFilled},
		{"/f", "/f", api.OK}, {"/d", "/d", api.OK}, {"/d/e", "/d/e", api.OK}, {"/d/g", "/l", api.OK}, {"/l", "/d/g", api.OK}, {"/l", "/l", api.OK}, // nothing is done
	}
	for _, r := range rows {
		if e := x.Move(r.from, r.to); e != r.wrong {
			t.Errorf("Move(%q, %q) = %d, not %d", r.from, r.to, e, r.wrong)
		}
		isTold(t, x, before)
	}
}

func TestMoved(t *testing.T) {
	rows := []struct{ from, to, then string }{
		{"/f", "/x", "/d/ /d/e/ /d/gho /lho=/d/g /xhi /z/"},
		{"/f", "/z/f", "/d/ /d/e/ /d/gho /lho=/d/g /z/ /z/fhi"},
		{"/f", "/l", "/d/ /d/e/ /d/gho /lhi /z/"},
		{"/f", "/d/g", "/d/ /d/e/ /d/ghi /lho /z/"},
		{"/l", "/f", "/d/ /d/e/ /d/gho /fho=/d/g /z/"},
		{"/d/g", "/f", "/d/ /d/e/ /fho /lho=/f /z/"},
		{"/d", "/x", "/fhi /lho /x/ /x/e/ /x/gho=/l /z/"},
		{"/d", "/z", "/fhi /lho /z/ /z/e/ /z/gho=/l"},
		{"/d", "/z/d", "/fhi /lho /z/ /z/d/ /z/d/e/ /z/d/gho=/l"},
		{"/z", "/d/e", "/d/ /d/e/ /d/gho /fhi /lho=/d/g"},
		{"/d/e", "/z", "/d/ /d/gho /fhi /lho=/d/g /z/"},
		{"/z", "/d/e/z", "/d/ /d/e/ /d/e/z/ /d/gho /fhi /lho=/d/g"},
		{"/z", "/dd", "/d/ /d/e/ /d/gho /dd/ /fhi /lho=/d/g"},
		{"/d", "/dd", "/dd/ /dd/e/ /dd/gho /fhi /lho=/dd/g /z/"},
		{"/d/g", "/d!", "/d/ /d!ho /d/e/ /fhi /lho=/d! /z/"},
	}
	for _, r := range rows {
		x := some(t)
		if e := x.Move(r.from, r.to); e != api.OK {
			t.Errorf("Move(%q, %q) = %d", r.from, r.to, e)
		}
		isTold(t, x, r.then)
	}
}

// TestThereAndBack does what leaves the tree as it was.
func TestThereAndBack(t *testing.T) {
	x := some(t)
	before := told(x)
	for _, p := range []string{"/x", "/d/x", "/z/x", "/d/e/x"} {
		are(t, []api.Errno{x.Make(p, file), x.Put(p, []byte("x")), x.Drop(p), x.Make(p, dir), x.Remove(p), x.Link("/f", p), x.Drop(p)}, api.OK, api.OK, api.OK, api.OK, api.OK, api.OK, api.OK)
		isTold(t, x, before)
		for _, q := range []string{"/f", "/d/g", "/l"} {
			are(t, []api.Errno{x.Move(q, p), x.Move(p, q)}, api.OK, api.OK)
			isTold(t, x, before)
		}
	}
	are(t, []api.Errno{x.Move("/d", "/z/x"), x.Move("/z/x", "/d"), x.Move("/z", "/d/e/x"), x.Move("/d/e/x", "/z")}, api.OK, api.OK, api.OK, api.OK)
	isTold(t, x, before)
}

func TestNilAndZero(t *testing.T) {
	for _, x := range []*tree.Tree{nil, {}} {
		k, e1 := x.Kind("/")
		n, e2 := x.Links("/")
		b, e3 := x.Bytes("")
		l, e4 := x.Names("/")
		if k != 0 || n != 0 || b != nil || l != nil {
			t.Error(k, n, b, l)
		}
		told := []api.Errno{e1, e2, e3, e4, x.Make("/f", file), x.Make("x", 9), x.Put("/", nil), x.Link("/", "x"), x.Drop("/"), x.Remove("/"), x.Move("x", "/"), x.Move("/", "/")}
		are(t, told, slices.Repeat([]api.Errno{api.ErrNil}, len(told))...)
		rows := x.Rows()
		for r := range rows {
			t.Error(r)
		}
		if x.Copy() != nil {
			t.Error("a copy of none")
		}
		if !tree.Same(x, nil) || !tree.Same(nil, x) || !tree.Same(x, &tree.Tree{}) || tree.Same(x, tree.New()) || tree.Same(tree.New(), x) {
			t.Error("what none is like")
		}
	}
}
