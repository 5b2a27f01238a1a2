package model

import (
	"bytes"
	"math"
	"slices"
	"strconv"
	"strings"
	"testing"

	"waterline/api"
	"waterline/tree"
)

var (
	long = strings.Repeat("n", 40)
	deep = strings.Repeat("/a", 16) // as many names as a path may have
)

// op reads an operation that is written short: "write /f 2 hi".
func op(line string) api.Op {
	l := append(strings.Split(line, " "), "", "", "")
	number := func(at int) int { n, _ := strconv.Atoi(l[at]); return n }
	x := api.Op{Path: l[1]}
	switch l[0] {
	case "stat":
		x.Kind = api.OpStat
	case "list":
		x.Kind = api.OpList
	case "read":
		x.Kind, x.At, x.N = api.OpRead, number(2), number(3)
	case "make":
		x.Kind = api.OpMake
	case "mkdir":
		x.Kind = api.OpMkdir
	case "unlink":
		x.Kind = api.OpUnlink
	case "rmdir":
		x.Kind = api.OpRmdir
	case "rename":
		x.Kind, x.To = api.OpRename, l[2]
	case "link":
		x.Kind, x.To = api.OpLink, l[2]
	case "write":
		x.Kind, x.At, x.Bytes = api.OpWrite, number(2), []byte(l[3])
	case "cut":
		x.Kind, x.N = api.OpCut, number(2)
	}
	return x
}

// isDone does operations, written short, and looks at their results.
func isDone(t *testing.T, m *Model, rows ...any) {
	t.Helper()
	for i := 0; i < len(rows); i += 2 {
		line := rows[i].(string)
		var want api.Res
		switch w := rows[i+1].(type) {
		case api.Errno:
			want.Errno = w
		case string:
			want.Bytes = []byte(w)
		case []string:
			want.Names = w
		case api.Res:
			want = w
		}
		isResult(t, line, m.Do(op(line)), want)
	}
}

// isResult looks at each field by itself.
func isResult(t *testing.T, of any, r, want api.Res) {
	t.Helper()
	if r.Errno != want.Errno || r.Kind != want.Kind || r.Links != want.Links || r.N != want.N || !slices.Equal(r.Names, want.Names) || !bytes.Equal(r.Bytes, want.Bytes) {
		t.Errorf("%.100q tells %v, not %v", of, r, want)
	}
	if !Equal(r, want) || !Equal(want, r) {
		t.Errorf("%v and %v are not the same", r, want)
	}
}

func aFile(links, n int) api.Res { return api.Res{Kind: api.InodeFile, Links: links, N: n} }

func aDir(n int) api.Res { return api.Res{Kind: api.InodeDir, Links: 1, N: n} }

// grown is a model of a tree to which operations were done, that all go.
func grown(t *testing.T, lines ...string) *Model {
	t.Helper()
	m := New()
	for _, line := range lines {
		isDone(t, m, line, api.OK)
	}
	return m
}

// some has a file, one of two names, an empty directory, a filled one.
func some(t *testing.T) *Model {
	t.Helper()
	return grown(t, "make /f", "write /f 0 hi", "mkdir /d", "mkdir /d/e", "make /d/g", "write /d/g 0 hoho", "link /d/g /l", "mkdir /z")
}

// all are the Kinds, rising.
func all() []api.OpKind {
	return []api.OpKind{api.OpStat, api.OpList, api.OpRead, api.OpMake, api.OpMkdir, api.OpUnlink, api.OpRmdir, api.OpRename, api.OpLink, api.OpWrite, api.OpCut}
}

func TestExamples(t *testing.T) {
	m := New()
	isDone(t, m,
		"make /f", api.OK, "write /f 2 hi", api.OK, "read /f 0 9", "\x00\x00hi", "stat /f", aFile(1, 4), "list /", []string{"f"}, "stat /", aDir(1),
		"cut /f 1", api.OK, "write /f -1", api.ErrArg, "read /x 0 1", api.ErrNoEntry, "cut /f 449", api.ErrBig, "none /f", api.ErrArg, "link /f /g", api.OK, "stat /g", aFile(2, 1))
}

// TestEachKind has each Kind do what it does, and tell what is wrong of layer 10's errors.
func TestEachKind(t *testing.T) {
	isDone(t, some(t),
		"stat /", aDir(4), "stat /d", aDir(2), "stat /d/e", aDir(0), "stat /f", aFile(1, 2), "stat /l", aFile(2, 4), "stat /x", api.ErrNoEntry, "stat /f/x", api.ErrNotDir, "stat /x/x", api.ErrNoEntry,
		"list /", []string{"d", "f", "l", "z"}, "list /d", []string{"e", "g"}, "list /z", api.OK, "list /f", api.ErrNotDir, "list /f/x", api.ErrNotDir, "list /x", api.ErrNoEntry,
		"read /f 0 2", "hi", "read /f 1 1", "i", "read /f 0 0", "", "read /f 2 5", "", "read /d 0 1", api.ErrIsDir, "read / 0 1", api.ErrIsDir, "read /x 0 1", api.ErrNoEntry, "read /f/x 0 1", api.ErrNotDir,
		"make /z/n", api.OK, "stat /z/n", aFile(1, 0), "make /f", api.ErrExists, "make /d", api.ErrExists, "make /", api.ErrExists, "make /f/x", api.ErrNotDir, "make /x/x", api.ErrNoEntry,
		"mkdir /z/m", api.OK, "stat /z/m", aDir(0), "mkdir /f", api.ErrExists, "mkdir /d", api.ErrExists, "mkdir /", api.ErrExists, "mkdir /f/x", api.ErrNotDir, "mkdir /x/x", api.ErrNoEntry,
		"unlink /z/n", api.OK, "stat /z/n", api.ErrNoEntry, "unlink /z/n", api.ErrNoEntry, "unlink /d", api.ErrIsDir, "unlink /", api.ErrIsDir, "unlink /f/x", api.ErrNotDir, "unlink /l", api.OK, "stat /d/g", aFile(1, 4),
		"rmdir /z/m", api.OK, "stat /z/m", api.ErrNoEntry, "rmdir /z/m", api.ErrNoEntry, "rmdir /d", api.ErrFilled, "rmdir /f", api.ErrNotDir, "rmdir /f/x", api.ErrNotDir, "rmdir /", api.ErrRoot,
		"link /d/g /l", api.OK, "read /l 0 9", "hoho", "link /f /l", api.ErrExists, "link /f /", api.ErrExists, "link /d /x", api.ErrIsDir, "link / /x", api.ErrIsDir, "link /x /y", api.ErrNoEntry, "link /f/x /y", api.ErrNotDir, "link /f /x/y", api.ErrNoEntry, "link /f /l/y", api.ErrNotDir,
		"rename /d /z/d", api.OK, "read /z/d/g 0 9", "hoho", "rename /z/d /d", api.OK, "rename /d /d/x", api.ErrLoop, "rename /d /f", api.ErrNotDir, "rename /f /d", api.ErrIsDir, "rename /z /d", api.ErrFilled, "rename / /x", api.ErrRoot, "rename /f /", api.ErrRoot, "rename /x /y", api.ErrNoEntry, "rename /f/x /y", api.ErrNotDir, "rename /f /l/y", api.ErrNotDir, "rename /f /y/y", api.ErrNoEntry, "rename /l /d/g", api.OK, "stat /l", aFile(2, 4),
		"write /f 1 om", api.OK, "read /f 0 9", "hom", "write /d 0 x", api.ErrIsDir, "write / 0 x", api.ErrIsDir, "write /x 0 x", api.ErrNoEntry, "write /f/x 0 x", api.ErrNotDir, "write /d 0 ", api.ErrIsDir, "write /x 0 ", api.ErrNoEntry, "write /f 400 ", api.OK, "stat /f", aFile(1, 3), "write /l 5 .", api.OK, "read /d/g 3 9", "o\x00.",
		"cut /f 2", api.OK, "read /f 0 9", "ho", "cut /f 4", api.OK, "read /f 1 9", "o\x00\x00", "cut /f 0", api.OK, "stat /f", aFile(1, 0), "cut /d 0", api.ErrIsDir, "cut / 0", api.ErrIsDir, "cut /x 0", api.ErrNoEntry, "cut /f/x 0", api.ErrNotDir,
	)
}

func TestBounds(t *testing.T) {
	full := string(bytes.Repeat([]byte("x"), 448))
	most := strconv.Itoa(math.MaxInt)
	least := strconv.Itoa(math.MinInt)
	m := grown(t, "make /f")
	isDone(t, m,
		"write /f 0 "+full, api.OK, "stat /f", aFile(1, 448), "read /f 0 448", full, "read /f 0 "+most, full, "read /f 447 "+most, "x", "read /f 448 1", "", "read /f "+most+" "+most, "", "read /f 449 0", "",
		"write /f 447 y", api.OK, "write /f 448 ", api.OK, "write /f 448 y", api.ErrBig, "write /f 447 yy", api.ErrBig, "write /f 449 ", api.ErrBig, "write /f 0 y"+full, api.ErrBig, "write /f 1 "+full, api.ErrBig, "write /f "+most+" ", api.ErrBig, "write /f "+most+" "+full, api.ErrBig, "read /f 446 9", "xy",
		"cut /f 448", api.OK, "cut /f 449", api.ErrBig, "cut /f "+most, api.ErrBig, "cut /f -1", api.ErrArg, "cut /f "+least, api.ErrArg, "stat /f", aFile(1, 448),
		"read /f -1 0", api.ErrArg, "read /f 0 -1", api.ErrArg, "read /f "+least+" 1", api.ErrArg, "read /f 1 "+least, api.ErrArg, "write /f -1 x", api.ErrArg, "write /f "+least+" x", api.ErrArg, "write /f -1 x"+full, api.ErrArg,
	)
	for n := 1; n < 200; n++ {
		isDone(t, m, "link /f /"+strconv.Itoa(n), api.OK)
	}
	isDone(t, m, "link /f /x", api.ErrLinks, "stat /f", aFile(200, 448), "stat /", aDir(200), "unlink /f", api.OK, "link /7 /x", api.OK, "link /7 /y", api.ErrLinks)
	isDone(t, m, "mkdir /"+long, api.OK, "mkdir /"+long+"n", api.ErrName)
	for n := 2; n <= 32; n += 2 {
		isDone(t, m, "mkdir "+deep[:n], api.OK)
	}
	isDone(t, m, "stat "+deep, aDir(0), "mkdir "+deep+"/a", api.ErrPath, "rename /a /x/a", api.ErrNotDir, "rename "+deep+" /b", api.OK, "rename /b "+deep[:28]+"/b/a", api.ErrNoEntry)
}

// TestCheckOrder asks for what is wrong with several things at once.
func TestCheckOrder(t *testing.T) {
	wrongPaths := []struct {
		text  string
		wrong api.Errno
	}{
		{"", api.ErrPath}, {"f", api.ErrPath}, {"//", api.ErrPath}, {"/f/", api.ErrPath}, {deep + "/a", api.ErrPath}, {"/\xff/", api.ErrPath}, {strings.Repeat("/..", 17), api.ErrPath},
		{"/..", api.ErrName}, {"/ ", api.ErrName}, {"/\xff", api.ErrName}, {"/" + long + "n", api.ErrName}, {"/a/\x00", api.ErrName},
	}
	numbers := []int{math.MinInt, -1, 0, 1, 447, 448, 449, math.MaxInt}
	are := func(x api.Op, want api.Errno) {
		t.Helper()
		m := some(t)
		if e := Check(x); e != want || e != slowCheck(x) {
			t.Errorf("Check(%.100v) tells %d, not %d", x, e, want)
		}
		if want != api.OK {
			isResult(t, x, m.Do(x), api.Res{Errno: want})
			isResult(t, x, (*Model)(nil).Do(x), api.Res{Errno: api.ErrNil})
		}
		if !Same(m, some(t)) {
			t.Errorf("%.100v changed something", x)
		}
	}
	for _, k := range all() {
		hasTo := k == api.OpRename || k == api.OpLink
		for _, p := range wrongPaths {
			for _, n := range numbers {
				are(api.Op{Kind: k, Path: p.text, To: "..", At: n, N: n, Bytes: make([]byte, 449)}, p.wrong)
				are(api.Op{Kind: k, Path: p.text, To: "/..", At: n, N: n}, p.wrong)
				if hasTo {
					are(api.Op{Kind: k, Path: "/f", To: p.text, At: n, N: n}, p.wrong)
					are(api.Op{Kind: k, Path: "/x/x", To: p.text, At: n, N: n}, p.wrong)
				}
			}
		}
	}
	for _, k := range []api.OpKind{math.MinInt, -1, 0, 12, 13, 257, math.MaxInt} {
		are(api.Op{Kind: k, Path: "/f", To: "/x"}, api.ErrArg)
		are(api.Op{Kind: k, Path: "f", To: "x", At: -1, N: -1, Bytes: make([]byte, 449)}, api.ErrArg)
		are(api.Op{Kind: k}, api.ErrArg)
	}
	for _, n := range numbers {
		for _, at := range numbers {
			for _, many := range []int{0, 1, 448, 449, 1000} {
				for _, k := range []api.OpKind{api.OpRead, api.OpWrite, api.OpCut} {
					x := api.Op{Kind: k, Path: "/f/x", At: at, N: n, Bytes: make([]byte, many)}
					if want := slowCheck(x); want != api.OK {
						are(x, want) // ahead of what the tree tells
					}
				}
			}
		}
	}
}

// TestNotNeeded has in an operation what its Kind does not need, whatever that is.
func TestNotNeeded(t *testing.T) {
	for _, line := range []string{"stat /f", "list /d", "read /f 0 2", "make /n", "mkdir /n", "unlink /f", "rmdir /z", "rename /d /z", "link /f /z/f", "write /f 1 hello", "cut /f 1", "stat /x", "unlink /", "rename /d /d/x"} {
		x := op(line)
		with := api.Op{Kind: x.Kind, Path: x.Path, To: "..", At: -1, N: -1, Bytes: make([]byte, 500)}
		switch x.Kind {
		case api.OpRename, api.OpLink:
			with.To = x.To
		case api.OpRead:
			with.At, with.N = x.At, x.N
		case api.OpWrite:
			with.At, with.Bytes = x.At, x.Bytes
		case api.OpCut:
			with.N = x.N
		}
		a, b := some(t), some(t)
		if e := Check(with); e != api.OK {
			t.Errorf("Check(%v) tells %d", with, e)
		}
		isResult(t, with, b.Do(with), a.Do(x))
		if !Same(a, b) {
			t.Errorf("%v does another thing than %q", with, line)
		}
	}
}

func TestCheckIsRight(t *testing.T) {
	for _, k := range all() {
		for _, p := range []string{"/", "/f", "/x/y", "/" + long, deep, "/...", "/~!"} {
			for _, n := range []int{0, 1, 448} {
				x := api.Op{Kind: k, Path: p, To: "/", At: n, N: n}
				if e := Check(x); e != api.OK {
					t.Errorf("Check(%v) tells %d", x, e)
				}
			}
		}
	}
}

func TestAsks(t *testing.T) {
	asking := []api.OpKind{1, 2, 3}
	for k := api.OpKind(-20); k < 300; k++ {
		if Asks(k) != slices.Contains(asking, k) {
			t.Error(k, Asks(k))
		}
	}
	if Asks(math.MinInt) || Asks(math.MaxInt) {
		t.Error("what is no Kind asks")
	}
}

func TestOf(t *testing.T) {
	for _, x := range []*tree.Tree{nil, {}} {
		if m, e := Of(x); m != nil || e != api.ErrNil {
			t.Error(m, e)
		}
	}
	x := tree.New()
	x.Make("/f", api.InodeFile)
	m, e := Of(x)
	if e != api.OK || !tree.Same(m.Tree(), x) {
		t.Fatal(e)
	}
	x.Put("/f", []byte("x"))
	isDone(t, m, "stat /f", aFile(1, 0), "unlink /f", api.OK)
	if b, e := x.Bytes("/f"); string(b) != "x" || e != api.OK {
		t.Error("the tree is the model's:", b, e)
	}
	if !tree.Same(New().Tree(), tree.New()) {
		t.Error("a new model is not of a root alone")
	}
	if y, e := Of(tree.New()); e != api.OK || !Same(y, New()) {
		t.Error("of a root alone", e)
	}
}

func TestNilAndZero(t *testing.T) {
	for _, m := range []*Model{nil, {}} {
		for _, k := range append(all(), -1, 0, 12) {
			isResult(t, k, m.Do(api.Op{Kind: k, Path: "/"}), api.Res{Errno: api.ErrNil})
			isResult(t, k, m.Do(api.Op{Kind: k}), api.Res{Errno: api.ErrNil})
		}
		if m.Tree() != nil || m.Copy() != nil {
			t.Error("there is something of none")
		}
		if Same(m, New()) || Same(New(), m) || !Same(m, nil) || !Same(nil, m) || !Same(m, &Model{}) || !Same(&Model{}, m) {
			t.Error("none is like a nil one alone")
		}
	}
}

func TestTreeAndCopy(t *testing.T) {
	m := some(t)
	x, y := m.Tree(), m.Copy()
	if !Same(m, y) || !Same(y, m) || !Same(m, m) || !tree.Same(x, y.Tree()) {
		t.Error("a copy is another one")
	}
	x.Put("/f", nil)
	x.Drop("/l")
	isDone(t, m, "stat /f", aFile(1, 2), "stat /l", aFile(2, 4), "write /f 0 ho", api.OK, "make /new", api.OK)
	isDone(t, y, "read /f 0 9", "hi", "stat /new", api.ErrNoEntry, "unlink /l", api.OK, "rmdir /z", api.OK)
	isDone(t, m, "stat /l", aFile(2, 4), "stat /z", aDir(0))
	if b, e := x.Bytes("/f"); len(b) > 0 || e != api.OK || Same(m, y) || Same(y, m) {
		t.Error("they do not go on apart")
	}
	if k, e := x.Kind("/new"); k != api.InodeNone || e != api.ErrNoEntry {
		t.Error("the tree is the model's")
	}
}

func TestSame(t *testing.T) {
	l := []*Model{New(), grown(t, "make /f"), grown(t, "mkdir /f"), grown(t, "make /g"), grown(t, "make /f", "write /f 0 x"), grown(t, "make /f", "write /f 0 y"), grown(t, "make /f", "make /g"), grown(t, "make /f", "link /f /g"), some(t)}
	for i, a := range l {
		for k, b := range l {
			if Same(a, b) != (i == k) || !Same(a, a.Copy()) {
				t.Error(i, k)
			}
		}
	}
	if !Same(grown(t, "make /a", "make /b", "unlink /a"), grown(t, "make /c", "rename /c /b")) {
		t.Error("the same, made in other ways")
	}
}

func TestEqual(t *testing.T) {
	l := []api.Res{
		{}, {Errno: 1}, {Errno: 2}, {Kind: 1}, {Kind: 2}, {Links: 1}, {Links: -1}, {N: 1}, {N: 2}, {Names: []string{"a"}}, {Names: []string{"b"}}, {Names: []string{""}}, {Names: []string{"a", "b"}}, {Names: []string{"b", "a"}}, {Names: []string{"a", "c"}}, {Names: []string{"a", "b", "c"}},
		{Bytes: []byte{0}}, {Bytes: []byte("a")}, {Bytes: []byte("ab")}, {Bytes: []byte("ba")}, {Bytes: []byte{0, 0}},
		{Errno: 1, Kind: 2, Links: 3, N: 4, Names: []string{"a"}, Bytes: []byte("a")}, {Errno: 1, Kind: 2, Links: 3, N: 4, Names: []string{"a"}, Bytes: []byte("b")}, {Errno: 1, Kind: 2, Links: 3, N: 4, Names: []string{"b"}, Bytes: []byte("a")},
	}
	for i, a := range l {
		for k, b := range l {
			b.Names, b.Bytes = append([]string{}, b.Names...), append([]byte{}, b.Bytes...) // empty instead of nil
			if Equal(a, b) != (i == k) || Equal(b, a) != (i == k) {
				t.Error(a, b)
			}
		}
	}
}

// TestSharesNothing writes into what is handed in, and what is told, behind its end too.
func TestSharesNothing(t *testing.T) {
	m := grown(t, "mkdir /d", "make /d/a", "make /d/b", "make /f")
	room := []byte("hello there")
	m.Do(api.Op{Kind: api.OpWrite, Path: "/f", At: 0, Bytes: room[:5]})
	if string(room) != "hello there" {
		t.Errorf("%q", room)
	}
	clear(room)
	for range 2 {
		r := m.Do(op("read /f 1 3"))
		isResult(t, "read", r, api.Res{Bytes: []byte("ell")})
		clear(r.Bytes[:cap(r.Bytes)])
		l := m.Do(op("list /d"))
		isResult(t, "list", l, api.Res{Names: []string{"a", "b"}})
		clear(l.Names[:cap(l.Names)])
	}
	isDone(t, m, "write /f 5 !", api.OK, "read /f 0 9", "hello!", "cut /f 2", api.OK, "cut /f 4", api.OK, "read /f 0 9", "he\x00\x00")
}

// TestTwoWrites has bytes written at once, and in two parts.
func TestTwoWrites(t *testing.T) {
	text := []byte("some bytes that are written, of as many kinds as there are")
	write := func(m *Model, at int, b []byte) {
		isResult(t, b, m.Do(api.Op{Kind: api.OpWrite, Path: "/f", At: at, Bytes: b}), api.Res{})
	}
	for at := range 3 {
		for cut := range len(text) + 1 {
			a, b := grown(t, "make /f", "write /f 0 abc"), grown(t, "make /f", "write /f 0 abc")
			write(a, at*190, text)
			write(b, at*190, text[:cut])
			write(b, at*190+cut, text[cut:])
			if !Same(a, b) {
				t.Error(at, cut)
			}
			r := b.Do(api.Op{Kind: api.OpRead, Path: "/f", At: at * 190, N: len(text)})
			isResult(t, "read", r, api.Res{Bytes: text})
		}
	}
}
