package order

import (
	"waterline/api"
	"waterline/model"
	"waterline/tree"
)

// mayCount tells whether a call may have been done, though it is not marked, so that it can be seen.
func (c underWay) mayCount() bool { return !c.Marked && !model.Asks(c.Op.Kind) }

func (c underWay) isAnswered(r api.Res) bool { return !c.Ended || model.Equal(r, c.Res) }

// firstWrong tells the place of the first marked call whose result is not the model's.
func (h history) firstWrong(from *tree.Tree) int {
	m, _ := model.Of(from)
	for _, c := range h.marked() {
		if !c.isAnswered(m.Do(c.Op)) {
			return c.place
		}
	}
	return none
}

// telling tells what tells the tree behind all marked calls, and some more.
func (h history) telling(from *tree.Tree) func(more ...underWay) *tree.Tree {
	m, _ := model.Of(from)
	do(m, h.marked()...)
	return func(more ...underWay) *tree.Tree {
		other := m.Copy()
		do(other, more...)
		return other.Tree()
	}
}

func do(m *model.Model, l ...underWay) {
	for _, c := range l {
		m.Do(c.Op)
	}
}
