package model

import (
	"maps"
	"slices"
	"strings"

	"waterline/api"
)

// sampler makes the same numbers in each run.
type sampler uint64

func (s *sampler) next() uint64 {
	*s = *s*6364136223846793005 + 1442695040888963407
	return uint64(*s ^ *s>>29)
}

func (s *sampler) below(n int) int { return int(s.next() >> 1 % uint64(n)) }

func pick[T any](s *sampler, l ...T) T { return l[s.below(len(l))] }

// thing is a file, or a directory, which alone has names.
type thing struct {
	names map[string]*thing
	bytes []byte
}

func (x *thing) isDir() bool { return x.names != nil }

// slow is operations, done to things by hand.
type slow struct{ root *thing }

func newSlow() slow { return slow{&thing{names: map[string]*thing{}}} }

func slowText(s string) api.Errno {
	if s == "/" {
		return api.OK
	}
	rest, begins := strings.CutPrefix(s, "/")
	names := strings.Split(rest, "/")
	if !begins || slices.Contains(names, "") || len(names) > 16 {
		return api.ErrPath
	}
	for _, n := range names {
		if n == "." || n == ".." || len(n) > 40 || strings.IndexFunc(n, func(r rune) bool { return r < 33 || r > 126 }) >= 0 {
			return api.ErrName
		}
	}
	return api.OK
}

func slowCheck(x api.Op) api.Errno {
	texts := []string{x.Path}
	low, high := 0, 0
	switch x.Kind {
	case api.OpStat, api.OpList, api.OpMake, api.OpMkdir, api.OpUnlink, api.OpRmdir:
	case api.OpRename, api.OpLink:
		texts = append(texts, x.To)
	case api.OpRead:
		low = min(x.At, x.N)
	case api.OpWrite:
		low, high = x.At, max(x.At, min(x.At, 1000)+len(x.Bytes))
	case api.OpCut:
		low, high = x.N, x.N
	default:
		return api.ErrArg
	}
	for _, s := range texts {
		if wrong := slowText(s); wrong != api.OK {
			return wrong
		}
	}
	if low < 0 {
		return api.ErrArg
	}
	if high > 448 {
		return api.ErrBig
	}
	return api.OK
}

// split tells the names ahead of the last one, and that.
func split(p string) ([]string, string) {
	l := strings.Split(p[1:], "/")
	return l[:len(l)-1], l[len(l)-1]
}

// dir tells the directory of the last name of a path.
func (m slow) dir(p string) (map[string]*thing, string, api.Errno) {
	above, last := split(p)
	x := m.root
	for _, n := range above {
		if !x.isDir() {
			return nil, "", api.ErrNotDir
		}
		if x = x.names[n]; x == nil {
			return nil, "", api.ErrNoEntry
		}
	}
	if !x.isDir() {
		return nil, "", api.ErrNotDir
	}
	return x.names, last, api.OK
}

func (m slow) at(p string) (*thing, api.Errno) {
	if p == "/" {
		return m.root, api.OK
	}
	l, last, wrong := m.dir(p)
	if wrong == api.OK && l[last] == nil {
		wrong = api.ErrNoEntry
	}
	return l[last], wrong
}

// links tells how many names lead to a thing.
func (m slow) links(x *thing) int {
	many := 0
	var count func(d *thing)
	count = func(d *thing) {
		for _, y := range d.names {
			if y == x {
				many++
			}
			count(y)
		}
	}
	count(m.root)
	if x == m.root {
		return 1
	}
	return many
}

func (m slow) do(x api.Op) api.Res {
	if wrong := slowCheck(x); wrong != api.OK {
		return api.Res{Errno: wrong}
	}
	switch x.Kind {
	case api.OpMake:
		return api.Res{Errno: m.put(x.Path, &thing{})}
	case api.OpMkdir:
		return api.Res{Errno: m.put(x.Path, &thing{names: map[string]*thing{}})}
	case api.OpRename:
		return api.Res{Errno: m.rename(x.Path, x.To)}
	case api.OpRmdir:
		return api.Res{Errno: m.rmdir(x.Path)}
	}
	f, wrong := m.at(x.Path)
	if wrong != api.OK {
		return api.Res{Errno: wrong}
	}
	if f.isDir() {
		return m.askDir(f, x.Kind)
	}
	return m.doFile(f, x)
}

func (m slow) askDir(d *thing, k api.OpKind) api.Res {
	switch k {
	case api.OpStat:
		return api.Res{Kind: api.InodeDir, Links: m.links(d), N: len(d.names)}
	case api.OpList:
		return api.Res{Names: slices.Sorted(maps.Keys(d.names))}
	}
	return api.Res{Errno: api.ErrIsDir}
}

func (m slow) doFile(f *thing, x api.Op) api.Res {
	switch x.Kind {
	case api.OpStat:
		return api.Res{Kind: api.InodeFile, Links: m.links(f), N: len(f.bytes)}
	case api.OpList:
		return api.Res{Errno: api.ErrNotDir}
	case api.OpRead:
		from := min(x.At, len(f.bytes))
		return api.Res{Bytes: slices.Clone(f.bytes[from : from+min(x.N, len(f.bytes)-from)])}
	case api.OpUnlink:
		d, last, _ := m.dir(x.Path)
		delete(d, last)
	case api.OpLink:
		if wrong := m.free(x.To); wrong != api.OK {
			return api.Res{Errno: wrong}
		}
		if m.links(f) > 199 {
			return api.Res{Errno: api.ErrLinks}
		}
		m.put(x.To, f)
	case api.OpWrite:
		for i, b := range x.Bytes {
			f.set(x.At+i, b)
		}
	case api.OpCut:
		if x.N > len(f.bytes) {
			f.set(x.N-1, 0)
		}
		f.bytes = f.bytes[:x.N]
	}
	return api.Res{}
}

// set puts one byte.
func (x *thing) set(at int, b byte) {
	for len(x.bytes) <= at {
		x.bytes = append(x.bytes, 0)
	}
	x.bytes[at] = b
}

// free tells why there may be no new name.
func (m slow) free(p string) api.Errno {
	if p == "/" {
		return api.ErrExists
	}
	d, last, wrong := m.dir(p)
	if wrong == api.OK && d[last] != nil {
		wrong = api.ErrExists
	}
	return wrong
}

func (m slow) put(p string, x *thing) api.Errno {
	wrong := m.free(p)
	if wrong == api.OK {
		d, last, _ := m.dir(p)
		d[last] = x
	}
	return wrong
}

func (m slow) rmdir(p string) api.Errno {
	if p == "/" {
		return api.ErrRoot
	}
	x, wrong := m.at(p)
	if wrong == api.OK && !x.isDir() {
		wrong = api.ErrNotDir
	}
	if wrong == api.OK && len(x.names) > 0 {
		wrong = api.ErrFilled
	}
	if wrong == api.OK {
		d, last, _ := m.dir(p)
		delete(d, last)
	}
	return wrong
}

func (m slow) rename(p, to string) api.Errno {
	if p == "/" || to == "/" {
		return api.ErrRoot
	}
	x, wrong := m.at(p)
	if wrong == api.OK && x.isDir() && strings.HasPrefix(to, p+"/") {
		wrong = api.ErrLoop
	}
	if wrong != api.OK {
		return wrong
	}
	d, last, wrong := m.dir(to)
	if wrong != api.OK {
		return wrong
	}
	y := d[last]
	switch {
	case y == x:
		return api.OK
	case y != nil && !y.isDir() && x.isDir():
		return api.ErrNotDir
	case y != nil && y.isDir() && !x.isDir():
		return api.ErrIsDir
	case y != nil && len(y.names) > 0:
		return api.ErrFilled
	}
	from, first, _ := m.dir(p)
	delete(from, first)
	d[last] = x
	return api.OK
}
