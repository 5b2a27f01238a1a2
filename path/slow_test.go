package path

import (
	"strings"

	"waterline/api"
)

// sampler makes the same numbers in each run.
type sampler uint64

func (s *sampler) next() uint64 {
	*s = *s*6364136223846793005 + 1442695040888963407
	return uint64(*s ^ *s>>29)
}

func (s *sampler) below(n int) int { return int(s.next() >> 1 % uint64(n)) }

// names makes so many names of a few letters, so that paths often have names in common.
func (s *sampler) names(many int) []string {
	var l []string
	for range many {
		n := make([]byte, 1+s.below(2))
		for i := range n {
			n[i] = "ab"[s.below(2)]
		}
		l = append(l, string(n))
	}
	return l
}

func slowIsName(s string) bool {
	if s == "" || s == "." || s == ".." || len(s) > 40 {
		return false
	}
	for _, b := range []byte(s) {
		if b <= ' ' || b > '~' || b == '/' {
			return false
		}
	}
	return true
}

// slowSplit goes over bytes: a slash begins a name, each other one goes behind the last name.
func slowSplit(s string) ([]string, api.Errno) {
	if s == "/" {
		return nil, api.OK
	}
	var l []string
	begins := 0
	for i, b := range []byte(s) {
		if i == 0 && b != '/' {
			return nil, api.ErrPath
		}
		if b == '/' {
			l, begins = append(l, ""), i+1
		} else {
			l[len(l)-1] = s[begins : i+1]
		}
	}
	empty, wrong := len(l) == 0, api.OK
	for _, n := range l {
		empty = empty || n == ""
		if !slowIsName(n) {
			wrong = api.ErrName
		}
	}
	if empty || len(l) > 16 {
		wrong = api.ErrPath
	}
	if wrong != api.OK {
		return nil, wrong
	}
	return l, api.OK
}

// slowJoin is told of names alone.
func slowJoin(l []string) string {
	if len(l) == 0 {
		return "/"
	}
	s := ""
	for _, n := range l {
		s += "/" + n
	}
	return s
}

// slowWithin holds texts against one another, not names.
func slowWithin(path, of string) bool {
	if of == "/" {
		return path != "/"
	}
	return strings.HasPrefix(path, of+"/")
}

// begin is a beginning, and how many names it has.
type begin struct {
	many int
	path string
}

// slowPrefixes cuts a path ahead of each slash, and behind the last name.
func slowPrefixes(s string) []begin {
	if l, wrong := slowSplit(s); wrong != api.OK || len(l) == 0 {
		return nil
	}
	told := []begin{{0, "/"}}
	for i := 1; i <= len(s); i++ {
		if i == len(s) || s[i] == '/' {
			told = append(told, begin{strings.Count(s[:i], "/"), s[:i]})
		}
	}
	return told
}

// texts tells all texts of so many letters, or fewer, out of some.
func texts(letters string, most int) []string {
	all, longest := []string{""}, []string{""}
	for range most {
		var longer []string
		for _, s := range longest {
			for _, b := range []byte(letters) {
				longer = append(longer, s+string([]byte{b}))
			}
		}
		all, longest = append(all, longer...), longer
	}
	return all
}
