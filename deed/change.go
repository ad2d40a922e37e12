package deed

import (
	"slices"
	"strings"

	"pleaching/api"
)

// change does a deed that Check has found to be one to a tree that is the
// program's own, and answers the deed that undoes it.
func change(t *api.Tree, d api.Deed) (api.Deed, int) {
	switch d.Kind {
	case api.DName:
		return name(t, d)
	case api.DDelete:
		return remove(t, d)
	}
	return insert(t, d)
}

// at finds the node at a path, and answers what look tells of it; ErrNone:
// there is no such node, and look is not asked.
func at(t *api.Tree, path []int, look func(node *api.Tree) int) int {
	for _, kid := range path {
		if kid >= len(t.Kids) {
			return api.ErrNone
		}
		t = &t.Kids[kid]
	}
	return look(t)
}

func name(t *api.Tree, d api.Deed) (back api.Deed, code int) {
	code = at(t, d.Path, func(node *api.Tree) int {
		back = api.Deed{Kind: api.DName, Path: joined(d.Path), Label: node.Label}
		node.Label = strings.Clone(d.Label)
		return 0
	})
	return back, code
}

func remove(t *api.Tree, d api.Deed) (back api.Deed, code int) {
	last := len(d.Path) - 1
	above, place := d.Path[:last], d.Path[last]
	code = at(t, above, func(parent *api.Tree) int {
		if place >= len(parent.Kids) {
			return api.ErrNone
		}
		node := parent.Kids[place]
		back = api.Deed{Kind: api.DInsert, Path: joined(above), At: place, Many: len(node.Kids), Label: node.Label}
		parent.Kids = swapped(parent.Kids, place, 1, node.Kids...)
		return 0
	})
	return back, code
}

func insert(t *api.Tree, d api.Deed) (back api.Deed, code int) {
	code = at(t, d.Path, func(parent *api.Tree) int {
		// Not At + Many: the sum may be too great for an int.
		if d.At > len(parent.Kids) || d.Many > len(parent.Kids)-d.At {
			return api.ErrRange
		}
		back = api.Deed{Kind: api.DDelete, Path: joined(d.Path, d.At)}
		beneath := parent.Kids[d.At : d.At+d.Many]
		node := api.Tree{Label: strings.Clone(d.Label), Kids: slices.Concat(beneath)}
		parent.Kids = swapped(parent.Kids, d.At, d.Many, node)
		return 0
	})
	return back, code
}

// joined: a path and the kids further down, in memory of its own.
func joined(path []int, further ...int) []int {
	return slices.Concat(path, further)
}

// swapped: a list of its own, in which other trees stand in the place of many
// kids from one on.
func swapped(kids []api.Tree, from, many int, others ...api.Tree) []api.Tree {
	return slices.Concat(kids[:from], others, kids[from+many:])
}
