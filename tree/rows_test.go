package tree_test

import (
	"slices"
	"strconv"
	"strings"
	"testing"

	"waterline/api"
	"waterline/tree"
)

// few is rows of a tree with all that rows may be: a file of three names, one of one, directories filled and empty, names about a slash.
func few() []api.Row {
	return []api.Row{
		{Path: "/a", Kind: dir, First: "/a"},
		{Path: "/a!", Kind: file, Bytes: []byte("x"), First: "/a!"},
		{Path: "/a/b", Kind: file, Bytes: []byte("yz"), First: "/a/b"},
		{Path: "/a/c", Kind: dir, First: "/a/c"},
		{Path: "/a/c/d", Kind: file, Bytes: []byte("yz"), First: "/a/b"},
		{Path: "/a0", Kind: file, First: "/a0"},
		{Path: "/b", Kind: file, Bytes: []byte("yz"), First: "/a/b"},
		{Path: "/c", Kind: dir, First: "/c"},
	}
}

func grown(t *testing.T, rows ...api.Row) *tree.Tree {
	t.Helper()
	x, e := tree.Of(rows...)
	if x == nil || e != api.OK {
		t.Fatalf("Of tells %d", e)
	}
	return x
}

// isOf holds Of against a slow one, and the rows that it took against those of its tree.
func isOf(t *testing.T, l []api.Row) {
	t.Helper()
	x, e := tree.Of(l...)
	if want := slowOf(l); want != (e == api.OK) || want != (x != nil) || !want && e != api.ErrArg {
		t.Fatalf("Of(%v) tells %d, not %v", l, e, want)
	}
	if x != nil && !sameRows(gather(x), l) {
		t.Fatalf("Of(%v) has the rows %v", l, gather(x))
	}
}

func TestOf(t *testing.T) {
	x := grown(t, few()...)
	isTold(t, x, "/a/ /a!x /a/byz /a/c/ /a/c/dyz=/a/b /a0 /byz=/a/b /c/")
	if n, e := x.Links("/b"); n != 3 || e != api.OK {
		t.Error(n, e)
	}
	are(t, []api.Errno{x.Put("/b", []byte("n")), x.Drop("/a/b"), x.Make("/c/e", file)}, api.OK, api.OK, api.OK)
	isTold(t, x, "/a/ /a!x /a/c/ /a/c/dn /a0 /bn=/a/c/d /c/ /c/e")
	if !tree.Same(grown(t), tree.New()) {
		t.Error("no rows are those of another tree than a root alone")
	}
	for many := range len(few()) + 1 {
		isOf(t, few()[:many])
	}
	isOf(t, []api.Row{{Path: "/f", Kind: file, Bytes: []byte{}, First: "/f"}, {Path: "/g", Kind: dir, Bytes: []byte{}, First: "/g"}})
}

func TestOfRefused(t *testing.T) {
	f := func(path string) api.Row { return api.Row{Path: path, Kind: file, First: path} }
	d := func(path string) api.Row { return api.Row{Path: path, Kind: dir, First: path} }
	big := api.Row{Path: "/f", Kind: file, Bytes: make([]byte, 449), First: "/f"}
	rows := [][]api.Row{
		{{}}, {f("")}, {d("")}, {f("/")}, {d("/")}, {f("f")}, {f("//")}, {f("//f")}, {f("/f/")}, {d("/d/")}, {f("/.")}, {d("/..")}, {f("/ ")}, {f("/\xff")}, {f("/" + long + "n")}, {f("f/")}, {f(" /f")},
		{f("/x/f")}, {f("/f"), f("/f/g")}, {d("/d"), f("/d/x/f")}, {f("/f"), f("/f")}, {d("/f"), d("/f")}, {d("/f"), f("/f")}, {f("/g"), f("/f")}, {d("/d"), f("/e"), f("/d/f")}, {f("/d/f"), d("/d")}, {d("/a"), f("/a/b"), f("/a!")}, {d("/d"), f("/d//")}, {d("/d"), f("/d/")}, {d("/d"), f("//d")},
		{big}, {{Path: "/f", First: "/f"}}, {{Path: "/f", Kind: 3, First: "/f"}}, {{Path: "/f", Kind: -1, First: "/f"}}, {{Path: "/f", Kind: 257, First: "/f"}},
		{{Path: "/f", Kind: file}}, {{Path: "/f", Kind: file, First: "/g"}}, {{Path: "/f", Kind: file, First: "/"}}, {{Path: "/f", Kind: file, First: "f"}}, {{Path: "/f", Kind: file, First: "/g"}, f("/g")}, {{Path: "/f", Kind: file, First: "/g"}, {Path: "/g", Kind: file, First: "/g"}},
		{{Path: "/d", Kind: dir}}, {{Path: "/d", Kind: dir, First: "/"}}, {{Path: "/d", Kind: dir, Bytes: []byte{0}, First: "/d"}}, {d("/d"), {Path: "/e", Kind: dir, First: "/d"}}, {d("/d"), {Path: "/e", Kind: file, First: "/d"}}, {f("/f"), {Path: "/g", Kind: dir, First: "/f"}},
		{f("/f"), {Path: "/g", Kind: file, Bytes: []byte("x"), First: "/f"}}, {f("/f"), {Path: "/g", Kind: file, First: "/f"}, {Path: "/h", Kind: file, First: "/g"}}, {f("/f"), {Path: "/g", Kind: file, First: "/h"}, f("/h")},
		{f("/f"), {Path: "/g", First: "/f"}}, {f("/f"), {Path: "/g", Kind: file, First: "/f"}, f("/g")},
	}
	for _, l := range rows {
		isOf(t, l)
		if x, e := tree.Of(l...); x != nil || e != api.ErrArg {
			t.Errorf("Of(%v) tells %d", l, e)
		}
	}
}

// TestOfChanged takes away, doubles and exchanges rows, and puts other things into each.
func TestOfChanged(t *testing.T) {
	all := few()
	texts := []string{"", "/", "/a", "/a!", "/a/b", "/a/c", "/a/c/d", "/a/d", "/a0", "/b", "/b/c", "/c", "/c/d", "/d", "a", "//a", "/a/", "/a/..", "/zz"}
	for i := range all {
		isOf(t, slices.Delete(few(), i, i+1))
		isOf(t, slices.Insert(few(), i, all[i]))
		for k := range all {
			other := few()
			other[i], other[k] = other[k], other[i]
			isOf(t, other)
		}
		change := func(with func(r *api.Row)) {
			other := few()
			with(&other[i])
			isOf(t, other)
		}
		for _, s := range texts {
			change(func(r *api.Row) { r.Path = s })
			change(func(r *api.Row) { r.First = s })
			change(func(r *api.Row) { r.Path, r.First = s, s })
			for _, k := range []api.InodeKind{-1, 0, 1, 2, 3} {
				change(func(r *api.Row) { r.Path, r.First, r.Kind = s, s, k })
				change(func(r *api.Row) { r.First, r.Kind, r.Bytes = s, k, nil })
			}
		}
		for _, b := range []string{"", "x", "y", "yz", "yy", "yzx"} {
			change(func(r *api.Row) { r.Bytes = []byte(b) })
		}
	}
}

// TestOfShort tries all lists of up to three rows of few.
func TestOfShort(t *testing.T) {
	var each []api.Row
	for _, path := range []string{"/a", "/a!", "/a/b", "/b"} {
		for _, first := range []string{"/a", "/a!", "/a/b", "/b", "/"} {
			for _, k := range []api.InodeKind{file, dir} {
				each = append(each, api.Row{Path: path, Kind: k, First: first})
			}
		}
		each = append(each, api.Row{Path: path, Kind: file, Bytes: []byte("x"), First: path}, api.Row{Path: path, Kind: file, Bytes: []byte("x"), First: "/a"})
	}
	for _, a := range each {
		isOf(t, []api.Row{a})
		for _, b := range each {
			isOf(t, []api.Row{a, b})
			for _, c := range each {
				isOf(t, []api.Row{a, b, c})
			}
		}
	}
}

func TestOfBounds(t *testing.T) {
	l := []api.Row{{Path: "/100", Kind: file, Bytes: make([]byte, 448), First: "/100"}}
	for n := 101; n < 300; n++ {
		l = append(l, api.Row{Path: "/" + strconv.Itoa(n), Kind: file, Bytes: make([]byte, 448), First: "/100"})
	}
	x := grown(t, l...)
	if n, e := x.Links("/299"); n != 200 || e != api.OK {
		t.Error(n, e)
	}
	isOf(t, l)
	l = append(l, api.Row{Path: "/300", Kind: file, Bytes: make([]byte, 448), First: "/100"})
	isOf(t, l)
	if x, e := tree.Of(l...); x != nil || e != api.ErrArg {
		t.Error("201 names:", e)
	}
	isOf(t, []api.Row{{Path: "/" + long, Kind: file, First: "/" + long}})
}

// TestOfStays looks that rows are neither changed nor kept.
func TestOfStays(t *testing.T) {
	l := few()
	x := grown(t, l...)
	if !sameRows(l, few()) {
		t.Error(l)
	}
	for i := range l {
		clear(l[i].Bytes)
	}
	clear(l)
	if !sameRows(gather(x), few()) {
		t.Error(gather(x))
	}
}

// TestRowsRise makes files beside and below directories whose names have all bytes behind "a".
func TestRowsRise(t *testing.T) {
	x := of(t, "/a/", "/a/x", "/a/a/")
	for b := '!'; b <= '~'; b++ {
		for _, p := range []string{"/a" + string(b), "/a/a" + string(b), "/a" + string(b) + "a", "/" + string(b)} {
			if e := x.Make(p, dir); e == api.OK {
				x.Make(p+"/x", file)
			}
		}
	}
	paths := []string{}
	for r := range x.Rows() {
		paths = append(paths, r.Path)
	}
	if !slices.IsSorted(paths) || len(paths) < 700 || len(slices.Compact(paths)) != len(paths) {
		t.Error(paths)
	}
}

func TestRowsLeft(t *testing.T) {
	x := grown(t, few()...)
	rows := x.Rows()
	for leave := range len(few()) {
		at := 0
		for r := range rows {
			if !sameRows([]api.Row{r}, few()[at:at+1]) {
				t.Error(at, r)
			}
			if at == leave {
				break
			}
			at++
		}
		if at != leave {
			t.Error("left at", at, "not at", leave)
		}
	}
	many := 0
	for range rows {
		many++
		if l := slices.Collect(rows); !sameRows(l, few()) {
			t.Error("within itself gone over:", l)
		}
	}
	if many != len(few()) {
		t.Error(many)
	}
}

// TestRowsAreThen changes the tree behind the call, and while its rows are gone over.
func TestRowsAreThen(t *testing.T) {
	x := grown(t, few()...)
	rows := x.Rows()
	are(t, []api.Errno{x.Put("/b", []byte("new")), x.Drop("/a!"), x.Remove("/c"), x.Make("/a/x", dir), x.Move("/a/c", "/d")}, api.OK, api.OK, api.OK, api.OK, api.OK)
	if l := slices.Collect(rows); !sameRows(l, few()) {
		t.Error(l)
	}
	now := x.Rows()
	want := slices.Collect(now)
	var seen []api.Row
	for r := range now {
		seen = append(seen, r)
		x.Drop(r.Path)
		x.Make(r.Path+"x", file)
		x.Put("/b", []byte(r.Path))
	}
	if !sameRows(seen, want) {
		t.Error(seen, want)
	}
	if l := slices.Collect(rows); !sameRows(l, few()) {
		t.Error(l)
	}
}

// TestRowsShareNothing writes into rows, and behind their bytes.
func TestRowsShareNothing(t *testing.T) {
	x := grown(t, few()...)
	rows := x.Rows()
	for i := range few() {
		l, want := slices.Collect(rows), few()
		clear(l[i].Bytes[:cap(l[i].Bytes)])
		clear(want[i].Bytes)
		if !sameRows(l, want) || !sameRows(slices.Collect(rows), few()) || !sameRows(gather(x), few()) {
			t.Error("the row", i, "shares its bytes:", l)
		}
	}
	for _, p := range []string{"/b", "/a!"} {
		b, _ := x.Bytes(p)
		clear(b[:cap(b)])
		if !sameRows(gather(x), few()) {
			t.Error(gather(x))
		}
	}
}

func TestCopy(t *testing.T) {
	x := grown(t, few()...)
	y := x.Copy()
	if !tree.Same(x, y) || !sameRows(gather(y), few()) {
		t.Error(gather(y))
	}
	are(t, []api.Errno{x.Put("/b", []byte("n")), x.Drop("/a/b"), x.Make("/c/e", file), x.Link("/a0", "/zero")}, api.OK, api.OK, api.OK, api.OK)
	if tree.Same(x, y) || !sameRows(gather(y), few()) {
		t.Error(gather(y))
	}
	then := gather(x)
	are(t, []api.Errno{y.Move("/a", "/c"), y.Put("/c/b", nil), y.Drop("/a!"), y.Make("/a", file), y.Link("/c/b", "/e")}, api.OK, api.OK, api.OK, api.OK, api.OK)
	if !sameRows(gather(x), then) {
		t.Error(gather(x))
	}
	isTold(t, y, "/a /a0 /b /c/ /c/b=/b /c/c/ /c/c/d=/b /e=/b")
	if n, e := y.Links("/e"); n != 4 || e != api.OK {
		t.Error(n, e)
	}
	if z := tree.New().Copy(); !tree.Same(z, tree.New()) || z.Make("/f", file) != api.OK {
		t.Error("a copy of a root alone")
	}
}

// TestSameOfAll holds trees that are alike but for one thing against one another.
func TestSameOfAll(t *testing.T) {
	texts := [][]api.Row{
		{}, {{Path: "/a", Kind: file}}, {{Path: "/a", Kind: dir}}, {{Path: "/a", Kind: file, Bytes: []byte("x")}}, {{Path: "/a", Kind: file, Bytes: []byte("y")}}, {{Path: "/b", Kind: file}},
		{{Path: "/a", Kind: file}, {Path: "/b", Kind: file}}, {{Path: "/a", Kind: file}, {Path: "/b", Kind: file, First: "/a"}}, {{Path: "/a", Kind: file}, {Path: "/b", Kind: dir}}, {{Path: "/a", Kind: dir}, {Path: "/b", Kind: dir}},
		{{Path: "/a", Kind: dir}, {Path: "/a/b", Kind: file}}, {{Path: "/a", Kind: dir}, {Path: "/a/b", Kind: dir}}, {{Path: "/a", Kind: dir}, {Path: "/a/c", Kind: dir}}, {{Path: "/a", Kind: dir}, {Path: "/a/b", Kind: dir}, {Path: "/b", Kind: dir}},
		{{Path: "/a", Kind: file}, {Path: "/b", Kind: file}, {Path: "/c", Kind: file}, {Path: "/d", Kind: file}},
		{{Path: "/a", Kind: file}, {Path: "/b", Kind: file, First: "/a"}, {Path: "/c", Kind: file}, {Path: "/d", Kind: file, First: "/c"}},
		{{Path: "/a", Kind: file}, {Path: "/b", Kind: file}, {Path: "/c", Kind: file, First: "/a"}, {Path: "/d", Kind: file, First: "/b"}},
		{{Path: "/a", Kind: file}, {Path: "/b", Kind: file}, {Path: "/c", Kind: file, First: "/b"}, {Path: "/d", Kind: file, First: "/a"}},
		{{Path: "/a", Kind: file}, {Path: "/b", Kind: file, First: "/a"}, {Path: "/c", Kind: file, First: "/a"}, {Path: "/d", Kind: file}},
		{{Path: "/a", Kind: file}, {Path: "/b", Kind: file, First: "/a"}, {Path: "/c", Kind: file}, {Path: "/d", Kind: file}},
		{{Path: "/a", Kind: file}, {Path: "/b", Kind: file}, {Path: "/c", Kind: file}, {Path: "/d", Kind: file, First: "/c"}},
		few(), few()[:7],
	}
	for i, l := range texts {
		for k := range l {
			if l[k].First == "" {
				l[k].First = l[k].Path
			}
		}
		for k := range i + 1 {
			a, b := grown(t, l...), grown(t, texts[k]...)
			if tree.Same(a, b) != (i == k) || tree.Same(b, a) != (i == k) {
				t.Error(told(a), "and", told(b))
			}
		}
	}
	x := grown(t, few()...)
	if !tree.Same(x, x) {
		t.Error("not like itself")
	}
}

// deeper makes a tree of one path of so many names, longer than any that leads there: it is moved below itself again and again.
func deeper(t *testing.T, many int) *tree.Tree {
	t.Helper()
	x := of(t, "/a/", "/f")
	are(t, []api.Errno{x.Put("/f", []byte("x")), x.Link("/f", "/a/g")}, api.OK, api.OK)
	for have := 2; have < many; {
		at := "/b"
		are(t, []api.Errno{x.Make(at, dir)}, api.OK)
		for have++; have < many && len(at) < 30; have++ {
			at += "/a"
			are(t, []api.Errno{x.Make(at, dir)}, api.OK)
		}
		are(t, []api.Errno{x.Move("/a", at+"/a"), x.Move("/b", "/a")}, api.OK, api.OK)
	}
	return x
}

// TestDeep has nodes to which no path leads any more.
func TestDeep(t *testing.T) {
	x := deeper(t, 40)
	rows := gather(x)
	bottom := strings.Repeat("/a", 39) + "/g"
	if len(rows) != 41 || rows[39].Path != bottom || rows[39].First != bottom || string(rows[40].Bytes) != "x" || rows[40].First != bottom {
		t.Fatal(rows)
	}
	isOf(t, rows)
	if y := grown(t, rows...); !tree.Same(x, y) || !tree.Same(x.Copy(), y) {
		t.Error("another tree of the same rows")
	}
	k, e := x.Kind(bottom)
	are(t, []api.Errno{e, x.Drop(bottom), x.Move(bottom, "/g"), x.Put(bottom, nil), x.Remove(strings.Repeat("/a", 17))}, api.ErrPath, api.ErrPath, api.ErrPath, api.ErrPath, api.ErrPath)
	if k != api.InodeNone {
		t.Error(k)
	}
	are(t, []api.Errno{x.Put("/f", []byte("y")), x.Remove(deep), x.Drop(deep)}, api.OK, api.ErrFilled, api.ErrIsDir)
	if l := gather(x); string(l[39].Bytes) != "y" || string(l[40].Bytes) != "y" {
		t.Error("the file so deep is another one")
	}
	for range 3 {
		are(t, []api.Errno{x.Move(deep[:24], "/b"), x.Remove("/a"), x.Move("/a/a/a/a/a/a/a/a/a/a/a", "/c")}, api.OK, api.ErrFilled, api.OK)
		are(t, []api.Errno{x.Move("/b", "/c/b"), x.Move("/c", "/a/a/a/a/a/a/a/a/a/a/a"), x.Move("/a/a/a/a/a/a/a/a/a/a/a/b", deep[:24])}, api.OK, api.OK, api.OK)
	}
	if n, e := x.Links("/f"); n != 2 || e != api.OK || len(gather(x)) != 41 {
		t.Error(n, e)
	}
}

// TestVeryDeep looks that what goes over a tree ends, however deep it is.
func TestVeryDeep(t *testing.T) {
	x := deeper(t, 30000)
	y := x.Copy()
	if !tree.Same(x, y) {
		t.Error("a copy is another one")
	}
	are(t, []api.Errno{y.Put("/f", nil)}, api.OK)
	if tree.Same(x, y) {
		t.Error("the same, though the bytes so deep are not")
	}
	for r := range x.Rows() {
		if len(r.Path) > 4000 {
			break
		}
	}
	few := deeper(t, 3000)
	if rows := gather(few); len(rows) != 3001 || !tree.Same(few, grown(t, rows...)) {
		t.Error(len(rows))
	}
}
