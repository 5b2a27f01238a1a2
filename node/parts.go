package node

import (
	"waterline/api"
	"waterline/label"
	"waterline/word"
)

const (
	fewestLines = 8 // of a device
	lastLine    = api.MaxLines - 1
	chunkBytes  = 64
	mostChunks  = api.MaxFile / chunkBytes
	buckets     = 7
	nameAt      = 2 // how many bytes an entry's name has; its words are behind
)

// super is a super line under way.
type super struct{ api.Super }

func superLine() kind[super] {
	return kind[super]{
		magic(),
		numbered(1, func(s *super) *int { return &s.Root }, needed),
		numbered(2, func(s *super) *int { return &s.Lines }, func(n int) bound { return bound{n, fewestLines, api.MaxLines} }),
	}
}

func inodeLine() kind[api.Inode] {
	return kind[api.Inode]{
		head(),
		numbered(1, func(x *api.Inode) *int { return &x.Top }, needed),
	}
}

func mapLine() kind[api.Map] {
	k := kind[api.Map]{numbered(0, func(x *api.Map) *int { return &x.Size }, sized)}
	for n := range mostChunks {
		k = append(k, chunk(n))
	}
	return k
}

func tableLine() kind[api.Table] {
	var k kind[api.Table]
	for n := range buckets {
		k = append(k, numbered(n, func(x *api.Table) *int { return &x.Heads[n] }, pointed))
	}
	return k
}

func entryLine() kind[api.Entry] {
	return kind[api.Entry]{
		numbered(0, func(x *api.Entry) *int { return &x.Next }, pointed),
		numbered(1, func(x *api.Entry) *int { return &x.Node }, needed),
		named(),
	}
}

// pointed is a pointer, needed one that is not 0, sized how many bytes a file has.
func pointed(n int) bound { return bound{n, 0, lastLine} }

func needed(n int) bound { return bound{n, 1, lastLine} }

func sized(n int) bound { return bound{n, 0, api.MaxFile} }

// number takes no word that is more than any number of a line: it would not go into each int.
func number(w uint64) int {
	mustBe(w <= api.MaxLines)
	return int(w)
}

// numbered is the part that is one number, in a word of its own.
func numbered[T any](at int, field func(*T) *int, lies func(n int) bound) part[T] {
	return part[T]{
		mayBe: func(x T) bool { return within(lies(*field(&x))) },
		write: func(x T, l *line) { l[at] = uint64(*field(&x)) },
		read:  func(l line, x *T) { *field(x) = number(l[at]) },
	}
}

// magic is the part of a super line that is always the same.
func magic() part[super] {
	return part[super]{
		mayBe: func(super) bool { return true },
		write: func(_ super, l *line) { l[0] = api.Magic },
		read:  func(l line, _ *super) { mustBe(l[0] == api.Magic) },
	}
}

// head is the part of an inode that is two numbers in one word.
func head() part[api.Inode] {
	kindOf, linksOf := api.Field{From: 0, Wide: 8}, api.Field{From: 8, Wide: 56}
	return part[api.Inode]{
		mayBe: func(x api.Inode) bool {
			kind := bound{int(x.Kind), int(api.InodeFile), int(api.InodeDir)}
			return within(kind, bound{x.Links, 1, mostLinks(x.Kind)})
		},
		write: func(x api.Inode, l *line) { // both fields hold what may be
			l[0], _ = word.Put(l[0], kindOf, uint64(x.Kind))
			l[0], _ = word.Put(l[0], linksOf, uint64(x.Links))
		},
		read: func(l line, x *api.Inode) {
			kind, _ := word.Get(l[0], kindOf)
			links, _ := word.Get(l[0], linksOf)
			x.Kind, x.Links = api.InodeKind(kind), number(links)
		},
	}
}

func mostLinks(k api.InodeKind) int {
	if k == api.InodeDir {
		return 1
	}
	return api.MaxLinks
}

// chunk is the part of a map that is one chunk's pointer; there is none behind the last byte.
func chunk(n int) part[api.Map] {
	p := numbered(1+n, func(x *api.Map) *int { return &x.Chunks[n] }, pointed)
	has := p.mayBe
	p.mayBe = func(x api.Map) bool {
		many, _ := Chunks(x.Size)
		return has(x) && (n < many || x.Chunks[n] == 0)
	}
	return p
}

// named is the part of an entry that is its name.
func named() part[api.Entry] {
	return part[api.Entry]{
		mayBe: func(x api.Entry) bool { return label.Check(x.Name) == api.OK },
		write: func(x api.Entry, l *line) {
			words, _ := label.Words(x.Name)
			l[nameAt] = uint64(len(x.Name))
			copy(l[nameAt+1:], words[:])
		},
		read: func(l line, x *api.Entry) {
			var words [5]uint64
			copy(words[:], l[nameAt+1:])
			name, wrong := label.Read(words, number(l[nameAt]))
			mustBe(wrong == api.OK)
			x.Name = name
		},
	}
}
