package model

import (
	"bytes"
	"maps"
	"math"
	"slices"
	"testing"

	"waterline/api"
	"waterline/tree"
)

// rows tells the rows of things, each file by the least path.
func (m slow) rows() []api.Row {
	at := map[string]*thing{}
	var walk func(p string, d *thing)
	walk = func(p string, d *thing) {
		for n, x := range d.names {
			at[p+"/"+n] = x
			walk(p+"/"+n, x)
		}
	}
	walk("", m.root)
	var l []api.Row
	first := map[*thing]string{}
	for _, p := range slices.Sorted(maps.Keys(at)) {
		x := at[p]
		if first[x] == "" {
			first[x] = p
		}
		k := api.InodeFile
		if x.isDir() {
			k = api.InodeDir
		}
		l = append(l, api.Row{Path: p, Kind: k, Bytes: x.bytes, First: first[x]})
	}
	return l
}

func isTree(t *testing.T, of any, x *tree.Tree, want []api.Row) {
	t.Helper()
	l := slices.Collect(x.Rows())
	same := func(a, b api.Row) bool {
		return a.Path == b.Path && a.Kind == b.Kind && a.First == b.First && bytes.Equal(a.Bytes, b.Bytes)
	}
	if !slices.EqualFunc(l, want, same) {
		t.Fatalf("%v: the tree is %v, not %v", of, l, want)
	}
}

// path makes a path, mostly of what is there, now and then one that is none.
func (s *sampler) path(rows []api.Row) string {
	p := ""
	if len(rows) > 0 && s.below(8) > 0 {
		p = pick(s, rows...).Path
	}
	if s.below(2) == 0 && s.below(40) > 0 {
		p += "/" + pick(s, "a", "b", "c", "a!")
	}
	if s.below(80) == 0 {
		p += pick(s, "/", "/..", "//a", "/ ", "x")
	}
	if p == "" {
		return "/"
	}
	return p
}

func (s *sampler) number() int {
	return pick(s, 0, 0, 1, 2, 3, 7, 8, 63, 64, 65, 200, 447, 448, 449, -1, math.MaxInt, math.MinInt, s.below(450))
}

func (s *sampler) op(rows []api.Row) api.Op {
	kinds := append(all(), api.OpMake, api.OpMkdir, api.OpMkdir, api.OpLink, api.OpWrite, api.OpWrite, api.OpRead)
	x := api.Op{Kind: pick(s, kinds...), Path: s.path(rows), To: s.path(rows), At: s.number(), N: s.number()}
	for n := range s.below(6) {
		x.Bytes = append(x.Bytes, byte('a'+s.below(4)+n))
	}
	if s.below(100) == 0 {
		x.Kind = pick[api.OpKind](s, 0, -1, 12)
	}
	if s.below(60) == 0 {
		x.Bytes = bytes.Repeat([]byte("x"), pick(s, 447, 448, 449))
	}
	return x
}

// TestAtRandom does operations to a model, and to things by hand.
func TestAtRandom(t *testing.T) {
	seen := map[api.OpKind]map[api.Errno]int{}
	for seed := range 60 {
		s := sampler(seed)
		m, slow := New(), newSlow()
		for range 200 {
			x := s.op(slow.rows())
			before := slow.rows()
			r, want := m.Do(x), slow.do(x)
			isResult(t, x, r, want)
			rows := slow.rows()
			isTree(t, x, m.Tree(), rows)
			if Asks(x.Kind) || r.Errno != api.OK {
				isTree(t, x, m.Tree(), before)
			}
			if seen[x.Kind] == nil {
				seen[x.Kind] = map[api.Errno]int{}
			}
			seen[x.Kind][r.Errno]++
			if s.below(50) == 0 {
				m = m.Copy()
			}
			if s.below(50) == 0 {
				m, _ = Of(m.Tree())
			}
		}
	}
	for _, k := range all() {
		if seen[k][api.OK] < 30 || len(seen[k]) < 4 {
			t.Error("of", k, "were told", seen[k])
		}
	}
}

// TestAllAtFewPaths does all of a few operations to all trees of up to three changes.
func TestAllAtFewPaths(t *testing.T) {
	var l []api.Op
	for _, p := range []string{"/", "/a", "/b", "/a/a"} {
		for _, k := range all() {
			x := api.Op{Kind: k, Path: p, N: 1, Bytes: []byte("xy")}
			if k != api.OpRename && k != api.OpLink {
				l = append(l, x)
				continue
			}
			for _, q := range []string{"/", "/a", "/b", "/a/a"} {
				x.To = q
				l = append(l, x)
			}
		}
	}
	trees := []*Model{New()}
	slows := [][]api.Op{nil}
	for from, round := 0, 0; round < 3; round++ {
		to := len(trees)
		for i := from; i < to; i++ {
			for _, x := range l {
				m, by := trees[i].Copy(), newSlow()
				for _, y := range slows[i] {
					by.do(y)
				}
				isResult(t, x, m.Do(x), by.do(x))
				isTree(t, x, m.Tree(), by.rows())
				if !slices.ContainsFunc(trees, func(o *Model) bool { return Same(o, m) }) {
					trees = append(trees, m)
					slows = append(slows, append(slices.Clone(slows[i]), x))
				}
			}
		}
		from = to
	}
	if len(trees) < 30 {
		t.Error(len(trees))
	}
}
