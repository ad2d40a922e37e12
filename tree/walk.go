package tree

import (
	"math/bits"

	"pleaching/api"
)

// step of a walk: the kids of one node, and which of them comes next.
type step struct {
	kids []api.Tree
	next int
}

// walk hands each node of a tree to look, ahead of all beneath it, from the
// left, with how many stand above it. It ends early, and answers false, when
// look answers false, or when a list of kids stands beneath itself, so that
// the nodes have no end.
//
// The way down is kept in a list, as a call for each level would run out of
// stack in a tree that is deep enough.
func walk(t api.Tree, look func(node api.Tree, above int) bool) bool {
	way := []step{{kids: []api.Tree{t}}}
	for len(way) > 0 {
		last := len(way) - 1
		if way[last].next == len(way[last].kids) {
			way = way[:last]
			continue
		}
		node := way[last].kids[way[last].next]
		way[last].next++
		if !look(node, last) {
			return false
		}
		if len(node.Kids) == 0 {
			continue
		}
		way = append(way, step{kids: node.Kids})
		if comesBack(way) {
			return false
		}
	}
	return true
}

// comesBack: is the last list of a way the very one at the mark, the greatest
// power of two ahead of it? In a tree of finite depth no list is met twice on
// one way. On a way without end the same lists come round and round: once the
// mark stands among them, and is as far down as one round is long, they meet.
// So one comparison a step is enough.
func comesBack(way []step) bool {
	last := len(way) - 1
	if last < 2 {
		return false
	}
	mark := 1 << (bits.Len(uint(last-1)) - 1)
	a, b := way[mark].kids, way[last].kids
	return len(a) == len(b) && &a[0] == &b[0]
}
