package path

import (
	"iter"
	"slices"
	"strings"

	"waterline/api"
	"waterline/label"
)

const slash = "/"

// list is names, each in the directory of the one ahead.
type list []string

func (l list) names() []string { return l }

func (l list) many() int { return len(l) }

func (l list) isRoot() bool { return len(l) == 0 }

func (l list) told() string { return slash + strings.Join(l, slash) }

// take adds a text, if it is a name.
func (l *list) take(name string) bool {
	if label.Check(name) != api.OK {
		return false
	}
	*l = append(*l, name)
	return true
}

// first has no room behind it: what is added to a part never gets into the whole.
func (l list) first(many int) list { return l[:many:many] }

// above and last are asked of lists that have names alone.
func (l list) above() list { return l.first(len(l) - 1) }

func (l list) last() string { return l[len(l)-1] }

// beginnings goes over the parts that a list begins with, each with how many names it has; of no names there are none.
func (l list) beginnings() iter.Seq2[int, list] {
	return func(yield func(int, list) bool) {
		if l.isRoot() {
			return
		}
		for many := range len(l) + 1 {
			if !yield(many, l.first(many)) {
				return
			}
		}
	}
}

// next tells by a closure whether a name is the next one of a list.
func (l list) next() func(name string) bool {
	at := 0
	return func(name string) bool {
		at++
		return at <= len(l) && l[at-1] == name
	}
}

// leading is a path under way.
type leading struct{ list }

// read tells the path that a text is.
func read(path string) (leading, api.Errno) {
	parts := strings.SplitN(path, slash, api.MaxDepth+2) // nothing ahead of the first one, and one more than may be
	names := parts[1:len(parts):len(parts)]
	if path == slash {
		return leading{}, api.OK
	}
	if len(names) == 0 || parts[0] != "" || slices.Contains(names, "") {
		goto noPath
	}
	return under(names...)
noPath:
	return leading{}, api.ErrPath
}

// under tells the path of names, each in the directory of the one ahead.
func under(names ...string) (leading, api.Errno) {
	var p leading
	wrong := api.ErrPath
	if len(names) > api.MaxDepth {
		goto refused
	}
	wrong = api.ErrName
	if !every(p.take, names...) {
		goto refused
	}
	return p, api.OK
refused:
	return leading{}, wrong
}

// every tells whether all things are such; it asks no more behind the first that is not.
func every[T any](such func(T) bool, l ...T) bool {
	for _, x := range l {
		if !such(x) {
			return false
		}
	}
	return true
}
