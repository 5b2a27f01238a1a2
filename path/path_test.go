package path

import (
	"slices"
	"strings"
	"testing"

	"waterline/api"
)

var long = strings.Repeat("n", 40)

// somePaths are paths of all depths, and such at the edges.
func somePaths() []string {
	s := sampler(1)
	l := []string{
		"/", "/a", "/b", "/ab", "/a/b", "/a/a", "/b/a", "/a/b/c", "/aa/a", "/a/aa", "/...", "/.a", "/a./.b", "/\\", "/a\\b/c", "/~/!", "/\"/'", "/A/a",
		"/" + long, "/" + long + "/" + long, strings.Repeat("/"+long, 16), strings.Repeat("/a", 15), strings.Repeat("/a", 16), strings.Repeat("/...", 16),
	}
	for many := range 17 {
		l = append(l, slowJoin(s.names(many)), slowJoin(s.names(many)))
	}
	return l
}

// noPaths are texts that are no paths, whatever names they have.
func noPaths() []string {
	return []string{
		"", "a", "ab", ".", "..", " ", "\x00", "\xff", "a/", "a/b", "./a", "../a", " /a", "\x00/a", "~/a", "é/a", "\\a",
		"//", "///", "//a", "/a/", "/a//", "/a//b", "//a/b", "/a/b//", "/a/b/", "/a//b/c", "///a", "/./", "/../", "//..", "/..//a", "/ /", "/a /", "/\xff/", "a/..", "a/ ", "../..",
		"/" + long + "n/", "/" + strings.Repeat("n", 100000) + "/", strings.Repeat("n", 100000), strings.Repeat("/", 100000),
		strings.Repeat("/a", 17), strings.Repeat("/a", 18), strings.Repeat("/a", 100000), strings.Repeat("/a", 16) + "/", strings.Repeat("/a", 17) + "/", strings.Repeat("/a", 15) + "//a",
		strings.Repeat("/.", 17), strings.Repeat("/a", 16) + "/..", "/.." + strings.Repeat("/a", 16), strings.Repeat("/"+long+"n", 17), strings.Repeat("a/", 16), strings.Repeat("/a", 16) + "/\x00",
	}
}

// noNames are texts of parts as they must be, of which one is no name.
func noNames() []string {
	return []string{
		"/.", "/..", "/ ", "/\x00", "/\xff", "/é", "/\x7f", "/\n", "/a b", "/a ", "/ a", "/a/.", "/a/..", "/./a", "/../a", "/a/../b", "/a/./b", "/a/ /b", "/a\x00/b", "/a/b\x00", "/a/\xc3", "/. ", "/... /a",
		"/" + long + "n", "/" + long + "n/a", "/a/" + long + "n", "/" + strings.Repeat("n", 100000), strings.Repeat("/a", 15) + "/.", strings.Repeat("/..", 16), "/." + strings.Repeat("/a", 15), strings.Repeat("/"+long+"n", 16),
	}
}

func gather(path string) []begin {
	var told []begin
	for many, p := range Prefixes(path) {
		told = append(told, begin{many, p})
	}
	return told
}

func isSplit(t *testing.T, path string) {
	t.Helper()
	want, wrong := slowSplit(path)
	if l, e := Split(path); !slices.Equal(l, want) || e != wrong {
		t.Errorf("Split(%q) = %q, %d, not %q, %d", path, l, e, want, wrong)
	}
	if told := gather(path); !slices.Equal(told, slowPrefixes(path)) {
		t.Errorf("Prefixes(%q) = %v", path, told)
	}
	parent, last := "", ""
	if wrong == api.OK && len(want) == 0 {
		wrong = api.ErrNone
	} else if wrong == api.OK {
		parent, last = slowJoin(want[:len(want)-1]), want[len(want)-1]
	}
	if p, l, e := Parent(path); p != parent || l != last || e != wrong {
		t.Errorf("Parent(%q) = %q, %q, %d, not %q, %q, %d", path, p, l, e, parent, last, wrong)
	}
}

func TestExamples(t *testing.T) {
	rows := []struct {
		path  string
		names []string
		wrong api.Errno
	}{
		{"/a/b", []string{"a", "b"}, api.OK},
		{"/", nil, api.OK},
		{"a", nil, api.ErrPath},
		{"/a/", nil, api.ErrPath},
		{"//a", nil, api.ErrPath},
		{"/a/..", nil, api.ErrName},
	}
	for _, r := range rows {
		if l, e := Split(r.path); !slices.Equal(l, r.names) || e != r.wrong {
			t.Errorf("Split(%q) = %q, %d", r.path, l, e)
		}
	}
	if p, l, e := Parent("/a/b"); p != "/a" || l != "b" || e != api.OK {
		t.Error(p, l, e)
	}
	if p, l, e := Parent("/"); p != "" || l != "" || e != api.ErrNone {
		t.Error(p, l, e)
	}
	if is, e := Within("/a/b", "/a"); !is || e != api.OK {
		t.Error(is, e)
	}
	if is, e := Within("/a", "/a"); is || e != api.OK {
		t.Error(is, e)
	}
	if told := gather("/a/b"); !slices.Equal(told, []begin{{0, "/"}, {1, "/a"}, {2, "/a/b"}}) {
		t.Error(told)
	}
}

func TestPathsAndOthers(t *testing.T) {
	rows := []struct {
		l     []string
		wrong api.Errno
	}{{somePaths(), api.OK}, {noPaths(), api.ErrPath}, {noNames(), api.ErrName}}
	for _, r := range rows {
		for _, path := range r.l {
			isSplit(t, path)
			if _, e := Split(path); e != r.wrong {
				t.Errorf("Split(%q) tells %d", path, e)
			}
		}
	}
}

// TestShortTexts tries all texts of few letters, those that name no thing too.
func TestShortTexts(t *testing.T) {
	for _, path := range append(texts("/a.", 8), texts("/.b \xff", 5)...) {
		isSplit(t, path)
	}
}

// TestEachByte puts all bytes at the ends of names, and within.
func TestEachByte(t *testing.T) {
	for b := range 256 {
		one := string([]byte{byte(b)})
		for _, path := range []string{one, one + "a", "/" + one, "/a" + one, "/" + one + "a", "/a" + one + "a", "/a/" + one, "/" + one + "/a", "/a/b" + one + "c/d", "/." + one, strings.Repeat("/a", 15) + "/" + one, strings.Repeat("/a", 16) + one} {
			isSplit(t, path)
		}
	}
}

func TestDepthAndLength(t *testing.T) {
	for many := range 40 {
		for _, name := range []string{"a", long, long + "n", "..", ""} {
			path := strings.Repeat("/"+name, many)
			isSplit(t, path)
			isSplit(t, path+"/")
			isSplit(t, "/b"+path)
		}
	}
	for length := range 100 {
		isSplit(t, "/"+strings.Repeat("n", length))
		isSplit(t, "/a/"+strings.Repeat("n", length)+"/b")
	}
}

func TestJoinAnswers(t *testing.T) {
	rows := []struct {
		names []string
		path  string
		wrong api.Errno
	}{
		{nil, "/", api.OK},
		{[]string{}, "/", api.OK},
		{[]string{"a"}, "/a", api.OK},
		{[]string{"a", "b"}, "/a/b", api.OK},
		{[]string{"b", "a", "b"}, "/b/a/b", api.OK},
		{[]string{"..."}, "/...", api.OK},
		{[]string{long, long}, "/" + long + "/" + long, api.OK},
		{slices.Repeat([]string{"a"}, 16), strings.Repeat("/a", 16), api.OK},
		{slices.Repeat([]string{long}, 16), strings.Repeat("/"+long, 16), api.OK},
		{slices.Repeat([]string{"a"}, 17), "", api.ErrPath},
		{slices.Repeat([]string{"a"}, 100000), "", api.ErrPath},
		{slices.Repeat([]string{""}, 17), "", api.ErrPath},
		{slices.Repeat([]string{".."}, 17), "", api.ErrPath},
		{slices.Repeat([]string{".."}, 16), "", api.ErrName},
		{[]string{""}, "", api.ErrName},
		{[]string{"", ""}, "", api.ErrName},
		{[]string{"a", ""}, "", api.ErrName},
		{[]string{"", "a"}, "", api.ErrName},
		{[]string{"/"}, "", api.ErrName},
		{[]string{"/a"}, "", api.ErrName},
		{[]string{"a/b"}, "", api.ErrName},
		{[]string{"a", "b/"}, "", api.ErrName},
		{[]string{"."}, "", api.ErrName},
		{[]string{"a", ".."}, "", api.ErrName},
		{[]string{"..", "a"}, "", api.ErrName},
		{[]string{"a", "b c", "d"}, "", api.ErrName},
		{[]string{"a", "\xff"}, "", api.ErrName},
		{[]string{long + "n"}, "", api.ErrName},
		{append(slices.Repeat([]string{"a"}, 15), "a/b"), "", api.ErrName},
		{append(slices.Repeat([]string{"a"}, 15), long+"n"), "", api.ErrName},
	}
	for _, r := range rows {
		if p, e := Join(r.names...); p != r.path || e != r.wrong {
			t.Errorf("Join(%q) = %q, %d", r.names, p, e)
		}
	}
}

// TestThereAndBack joins what was split, and splits what was joined.
func TestThereAndBack(t *testing.T) {
	for _, path := range somePaths() {
		l, _ := Split(path)
		if p, e := Join(l...); p != path || e != api.OK {
			t.Errorf("Join(%q) = %q, %d", l, p, e)
		}
	}
	s := sampler(2)
	for range 3000 {
		names := s.names(s.below(17))
		path, e := Join(names...)
		if path != slowJoin(names) || e != api.OK {
			t.Fatalf("Join(%q) = %q, %d", names, path, e)
		}
		if l, e := Split(path); !slices.Equal(l, names) || e != api.OK {
			t.Fatalf("Split(%q) = %q, %d", path, l, e)
		}
	}
}

// TestParentAndLast makes each path of its parent's names and its last one.
func TestParentAndLast(t *testing.T) {
	for _, path := range somePaths() {
		if path == "/" {
			continue
		}
		parent, last, e := Parent(path)
		above, wrong := Split(parent)
		if e != api.OK || wrong != api.OK {
			t.Fatalf("Parent(%q) = %q, %d, %d", path, parent, e, wrong)
		}
		if p, e := Join(append(above, last)...); p != path || e != api.OK {
			t.Errorf("%q is %q and %q", path, parent, last)
		}
		if is, e := Within(path, parent); !is || e != api.OK {
			t.Errorf("%q is not within %q: %d", path, parent, e)
		}
		if is, e := Within(parent, path); is || e != api.OK {
			t.Errorf("%q is within %q: %d", parent, path, e)
		}
	}
	if p, l, e := Parent("/a"); p != "/" || l != "a" || e != api.OK {
		t.Error(p, l, e)
	}
	if p, l, e := Parent(strings.Repeat("/b", 15) + "/a"); p != strings.Repeat("/b", 15) || l != "a" || e != api.OK {
		t.Error(p, l, e)
	}
}

func TestWithinAnswers(t *testing.T) {
	deep := strings.Repeat("/a", 16)
	rows := []struct {
		path, of string
		is       bool
	}{
		{"/", "/", false}, {"/a", "/", true}, {"/", "/a", false}, {"/a", "/a", false}, {"/a/b", "/", true}, {"/a/b", "/a", true}, {"/a", "/a/b", false},
		{"/a/b", "/b", false}, {"/b/a", "/a", false}, {"/ab", "/a", false}, {"/a", "/ab", false}, {"/ab/c", "/a", false}, {"/a/bc", "/a/b", false}, {"/a/b/c", "/a/b", true}, {"/a/b/c", "/a/c", false},
		{"/a/b/c", "/b", false}, {"/a/b/c", "/a/b/c", false}, {"/a/b/c/d", "/a", true}, {"/a/a", "/a", true}, {"/a/a/a", "/a/a", true}, {"/A/b", "/a", false}, {"/.../a", "/...", true}, {"/..../a", "/...", false},
		{deep, "/", true}, {deep, "/a", true}, {deep, deep[:30], true}, {deep[:30], deep, false}, {deep, deep, false}, {deep, deep[:28] + "/b", false},
	}
	for _, r := range rows {
		if is, e := Within(r.path, r.of); is != r.is || e != api.OK {
			t.Errorf("Within(%q, %q) = %v, %d", r.path, r.of, is, e)
		}
	}
}

func TestWithinWrong(t *testing.T) {
	few := []string{"/", "/a", "/a/b", strings.Repeat("/a", 16)}
	all := slices.Concat(few, noPaths(), noNames())
	var wrong []api.Errno
	for _, path := range all {
		_, e := slowSplit(path)
		wrong = append(wrong, e)
	}
	for i, path := range all {
		for k, of := range all {
			want := wrong[i]
			if want == api.OK {
				want = wrong[k]
			}
			if is, e := Within(path, of); e != want || is != (want == api.OK && slowWithin(path, of)) {
				t.Errorf("Within(%q, %q) = %v, %d", path, of, is, e)
			}
		}
	}
	rows := []struct {
		path, of string
		wrong    api.Errno
	}{{"a", "/..", api.ErrPath}, {"/..", "a", api.ErrName}, {"/..", "/a", api.ErrName}, {"/a", "/..", api.ErrName}, {"/a", "", api.ErrPath}, {"/a", "/a/", api.ErrPath}, {"/a/", "/a", api.ErrPath}, {"", "/", api.ErrPath}}
	for _, r := range rows {
		if is, e := Within(r.path, r.of); is || e != r.wrong {
			t.Errorf("Within(%q, %q) = %v, %d", r.path, r.of, is, e)
		}
	}
}

// TestWithinOfAll holds paths against one another, by twos and by threes.
func TestWithinOfAll(t *testing.T) {
	var paths []string
	for _, path := range texts("/ab", 6) {
		if _, e := slowSplit(path); e == api.OK {
			paths = append(paths, path)
		}
	}
	within := map[[2]string]int{}
	for _, a := range paths {
		for _, b := range paths {
			is, e := Within(a, b)
			if is != slowWithin(a, b) || e != api.OK {
				t.Fatalf("Within(%q, %q) = %v, %d", a, b, is, e)
			}
			if is {
				within[[2]string{a, b}]++
			}
		}
	}
	for pair := range within {
		if within[[2]string{pair[1], pair[0]}] > 0 {
			t.Error("each within the other:", pair)
		}
		for _, c := range paths {
			if within[[2]string{pair[1], c}] > 0 && within[[2]string{pair[0], c}] == 0 {
				t.Error("not within:", pair, c)
			}
		}
	}
	s := sampler(3)
	for range 3000 {
		names := s.names(s.below(17))
		other := slices.Concat(names[:s.below(len(names)+1)], s.names(s.below(2)))
		a, b := slowJoin(names), slowJoin(other)
		if len(other) > 16 {
			continue
		}
		if is, e := Within(a, b); is != slowWithin(a, b) || e != api.OK {
			t.Fatalf("Within(%q, %q) = %v, %d", a, b, is, e)
		}
	}
}

func TestPrefixesAnswers(t *testing.T) {
	rows := []struct {
		path string
		want []begin
	}{
		{"/a", []begin{{0, "/"}, {1, "/a"}}},
		{"/ab/c", []begin{{0, "/"}, {1, "/ab"}, {2, "/ab/c"}}},
		{"/a/a/a", []begin{{0, "/"}, {1, "/a"}, {2, "/a/a"}, {3, "/a/a/a"}}},
		{"/", nil}, {"", nil}, {"a", nil}, {"/a/", nil}, {"//", nil}, {"/a//b", nil}, {"/a/..", nil}, {"/../a", nil}, {"/a/b c", nil}, {strings.Repeat("/a", 17), nil}, {"/a/" + long + "n", nil},
	}
	for _, r := range rows {
		if told := gather(r.path); !slices.Equal(told, r.want) {
			t.Errorf("Prefixes(%q) = %v", r.path, told)
		}
	}
	for _, path := range somePaths() {
		l, _ := Split(path)
		told := gather(path)
		if len(l) > 0 && len(told) != len(l)+1 {
			t.Errorf("%q has %d names and %d beginnings", path, len(l), len(told))
		}
		for i, b := range told {
			names, e := Split(b.path)
			if b.many != i || len(names) != i || !slices.Equal(names, l[:i]) || e != api.OK {
				t.Errorf("the beginning %v of %q", b, path)
			}
		}
	}
}

// TestPrefixesLeft leaves the beginnings at each place, and goes over them again.
func TestPrefixesLeft(t *testing.T) {
	path := strings.Repeat("/a", 16)
	all := Prefixes(path)
	for leave := range 17 {
		last := -1
		for many := range all {
			last = many
			if many == leave {
				break
			}
		}
		if last != leave {
			t.Error("left at", last, "not at", leave)
		}
	}
	for range 2 {
		seen := 0
		for many, p := range all {
			if many != seen || p != slowJoin(slices.Repeat([]string{"a"}, many)) {
				t.Error(many, p)
			}
			inner := 0
			for range all {
				inner++
			}
			if inner != 17 {
				t.Error("within itself gone over", inner, "of 17")
			}
			seen++
		}
		if seen != 17 {
			t.Error("gone over", seen, "of 17")
		}
	}
	for _, path := range []string{"/", "", "/a/"} {
		for many, p := range Prefixes(path) {
			t.Error(path, many, p)
		}
	}
}

func TestListsStayAndAreNotShared(t *testing.T) {
	room := []string{"a", "b", "c", "d"}
	path, _ := Join(room[:2]...)
	room[0] = "x"
	if path != "/a/b" || !slices.Equal(room, []string{"x", "b", "c", "d"}) {
		t.Error(path, room)
	}
	one, _ := Split("/a/b")
	other, _ := Split("/a/b")
	one[0] = "x"
	one = append(one, "c")
	third, _ := Split("/a/b")
	if !slices.Equal(other, []string{"a", "b"}) || !slices.Equal(third, other) || !slices.Equal(one, []string{"x", "b", "c"}) {
		t.Error(one, other, third)
	}
}
