package merge

import (
	"slices"

	"pleaching/api"
	"pleaching/tree"
)

// merger of three trees, and the path of the node of the first that it has
// come to.
type merger struct{ path []int }

// clash is what a merger panics with when it can't go on.
type clash struct{ path []int }

// merged: what a and b made of o; or the path of the node of o where merging
// gave up. It shares memory with all three.
func merged(o, a, b api.Tree) (t api.Tree, path []int, clashes bool) {
	defer func() {
		switch why := recover().(type) {
		case nil:
		case clash:
			path, clashes = why.path, true
		default: // not the merger's own
			panic(why)
		}
	}()
	var m merger
	return m.tree(o, a, b), nil, false
}

// either: what one of two left alone is the other one's; what both changed, and
// not alike, is left to both.
func either[T any](o, a, b T, same func(x, y T) bool, both func() T) T {
	switch {
	case same(a, b), same(b, o):
		return a
	case same(a, o):
		return b
	}
	return both()
}

// tree merges three nodes, and all beneath them.
func (m *merger) tree(o, a, b api.Tree) api.Tree {
	return either(o, a, b, tree.Same, func() api.Tree {
		label := m.label(o.Label, a.Label, b.Label)
		return api.Tree{Label: label, Kids: m.kids(o.Kids, a.Kids, b.Kids)}
	})
}

func (m *merger) label(o, a, b string) string {
	same := func(x, y string) bool { return x == y }
	return either(o, a, b, same, func() string { panic(clash{m.path}) })
}

// held: a kid of o that a and b have, too, and its place in each.
type held struct{ o, a, b int }

// allHeld: the held ones of three lists, from the front on.
func allHeld(o, a, b []api.Tree) []held {
	var l []held
	second := Common(o, b)
	for _, p := range Common(o, a) {
		for _, q := range second {
			if p.A == q.A {
				l = append(l, held{p.A, p.B, q.B})
			}
		}
	}
	return l
}

// kids merges what stands between held ones, and leaves these where they stood.
func (m *merger) kids(o, a, b []api.Tree) []api.Tree {
	var l []api.Tree
	var from held
	for _, h := range allHeld(o, a, b) {
		l = append(l, m.between(from.o, o[from.o:h.o], a[from.a:h.a], b[from.b:h.b])...)
		l = append(l, o[h.o])
		from = held{h.o + 1, h.a + 1, h.b + 1}
	}
	return append(l, m.between(from.o, o[from.o:], a[from.a:], b[from.b:])...)
}

// between merges kids that stand between held ones; the first of o is its
// parent's kid first.
func (m *merger) between(first int, o, a, b []api.Tree) []api.Tree {
	same := func(x, y []api.Tree) bool { return slices.EqualFunc(x, y, tree.Same) }
	return either(o, a, b, same, func() []api.Tree {
		if len(o) != len(a) || len(o) != len(b) {
			panic(clash{m.path})
		}
		l := make([]api.Tree, len(o))
		for i := range o {
			m.path = append(m.path, first+i)
			l[i] = m.tree(o[i], a[i], b[i])
			m.path = m.path[:len(m.path)-1]
		}
		return l
	})
}
