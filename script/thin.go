package script

import (
	"slices"

	"pleaching/api"
	"pleaching/deed"
	"pleaching/order"
	"pleaching/tree"
)

// thin takes away the nodes of a tree that do not stay, by their numbers: what
// is left, the deeds that did it, and those that undo it, in the order of
// undoing. The root stays.
func thin(t api.Tree, stays func(number int) bool) (left api.Tree, away, back []api.Deed) {
	left = t
	for number := range tree.Size(t) {
		if stays(number) {
			continue
		}
		// Those that went had lower numbers: each made this one lower by 1.
		nodes, _ := order.Of(left)
		d := api.Deed{Kind: api.DDelete, Path: order.Path(nodes, number-len(away))}
		next, undo, _ := deed.Do(left, d)
		left, away, back = next, append(away, d), append(back, undo)
	}
	slices.Reverse(back)
	return left, away, back
}

// names: a deed for each node that has another label in a second tree of the
// same shape, by their numbers.
func names(a, b api.Tree) []api.Deed {
	first, _ := order.Of(a)
	second, _ := order.Of(b)
	var l []api.Deed
	for number, node := range second {
		if node.Label != first[number].Label {
			l = append(l, api.Deed{Kind: api.DName, Path: order.Path(first, number), Label: node.Label})
		}
	}
	return l
}
