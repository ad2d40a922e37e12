package book

import (
	"slices"

	"pleaching/api"
	"pleaching/deed"
	"pleaching/tree"
)

// Blame: of each node of a tree, in the order of order.Of, in which tree it was
// new; ErrNone: there is no such tree.
func (b *Book) Blame(n int) ([]int, int) {
	t, ok := b.Get(n)
	if !ok {
		return nil, api.ErrNone
	}
	steps := make([][]api.Deed, n+1)
	for number := n; number > 0; number-- {
		t, steps[number] = b.ahead(number, t)
	}
	// t is the first tree by now, all of whose nodes are of tree 0.
	since := make([]int, tree.Size(t))
	for number, step := range steps {
		t, since = aged(t, since, step, number)
	}
	return since, 0
}

// aged: the tree that a step makes of one, and since when its nodes have been
// there: those that come, since the tree now. The list since is written over.
//
// Nodes that go or come leave all others in the order in which they stood; a
// node that gets another label stays where it is.
func aged(t api.Tree, since []int, step []api.Deed, now int) (api.Tree, []int) {
	for _, d := range step {
		next, back, _ := deed.Do(t, d)
		switch d.Kind {
		case api.DDelete:
			gone := place(t, d.Path)
			since = slices.Delete(since, gone, gone+1)
		case api.DInsert:
			// What undoes it takes away the node that came, by its path.
			since = slices.Insert(since, place(next, back.Path), now)
		}
		t = next
	}
	return t, since
}

// place of the node at a path in the order of order.Of: how many nodes stand
// left of the way down to it, and beneath it.
func place(t api.Tree, path []int) int {
	left := 0
	for _, kid := range path {
		for _, other := range t.Kids[:kid] {
			left += tree.Size(other)
		}
		t = t.Kids[kid]
	}
	return left + tree.Size(t) - 1
}
