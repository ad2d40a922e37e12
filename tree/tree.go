// Package tree: see doc/01-tree.md.
package tree

import (
	"math"
	"strings"

	"pleaching/api"
)

// endless is what Size answers of a tree whose nodes have no end: Kids that
// lead back to themselves can be written down, and every call must end.
const endless = math.MaxInt

// Label: is it 1 to MaxLabel letters a to z?
func Label(s string) bool {
	if len(s) == 0 || len(s) > api.MaxLabel {
		return false
	}
	for i := range len(s) {
		if s[i] < 'a' || s[i] > 'z' {
			return false
		}
	}
	return true
}

// Check tells why it is no tree: ErrMany, ErrDeep, ErrName, the first that is
// so; 0: it is one.
func Check(t api.Tree) int {
	nodes, deepest, named := 0, 0, true
	whole := walk(t, func(node api.Tree, above int) bool {
		nodes++
		deepest = max(deepest, above)
		named = named && Label(node.Label)
		return nodes <= api.MaxNodes
	})
	switch {
	case !whole:
		return api.ErrMany
	case deepest > api.MaxDeep:
		return api.ErrDeep
	case !named:
		return api.ErrName
	}
	return 0
}

// Size: how many nodes.
func Size(t api.Tree) int {
	nodes := 0
	whole := walk(t, func(api.Tree, int) bool {
		nodes++
		return true
	})
	if !whole {
		return endless
	}
	return nodes
}

// twins are two lists that are as long as each other.
type twins struct{ a, b []api.Tree }

// place tells twins from all others: where they lie, and how long they are.
type place struct {
	a, b *api.Tree
	long int
}

// Same: are they the same?
//
// Twins that were held against each other once need not be again: that is why
// it ends where lists lead back to themselves, too.
func Same(a, b api.Tree) bool {
	seen := map[place]struct{}{}
	todo := []twins{{[]api.Tree{a}, []api.Tree{b}}}
	for len(todo) > 0 {
		last := len(todo) - 1
		two := todo[last]
		todo = todo[:last]
		p := place{&two.a[0], &two.b[0], len(two.a)}
		if _, ok := seen[p]; ok {
			continue
		}
		seen[p] = struct{}{}
		for i, x := range two.a {
			y := two.b[i]
			if x.Label != y.Label || len(x.Kids) != len(y.Kids) {
				return false
			}
			if len(x.Kids) > 0 {
				todo = append(todo, twins{x.Kids, y.Kids})
			}
		}
	}
	return true
}

// Own: one like that in memory of its own. Of a tree whose nodes have no end
// there is none: the zero Tree.
func Own(t api.Tree) api.Tree {
	if Size(t) == endless {
		return api.Tree{}
	}
	root := []api.Tree{t}
	todo := [][]api.Tree{root}
	for len(todo) > 0 {
		last := len(todo) - 1
		list := todo[last]
		todo = todo[:last]
		for i, node := range list {
			list[i] = ownNode(node)
			if len(node.Kids) > 0 {
				todo = append(todo, list[i].Kids)
			}
		}
	}
	return root[0]
}

// ownNode: a node with a label and a list of its own; what stands in the list
// is not its own yet. A list without elements is dropped, as there may be
// memory behind it.
func ownNode(t api.Tree) api.Tree {
	own := api.Tree{Label: strings.Clone(t.Label)}
	if len(t.Kids) > 0 {
		own.Kids = make([]api.Tree, len(t.Kids))
		copy(own.Kids, t.Kids)
	}
	return own
}

// At: the node at a path, and all beneath it; false: there is none.
func At(t api.Tree, path []int) (api.Tree, bool) {
	for _, kid := range path {
		if kid < 0 || kid >= len(t.Kids) {
			return api.Tree{}, false
		}
		t = t.Kids[kid]
	}
	return Own(t), true
}
