package dist_test

import (
	"pleaching/api"
)

// This file reckons a second time what package dist answers: by deeds done to
// whole forests, one after the other (web), and by the words of point 3 on
// forests that are lists of trees (reckoner).

// twig: a node with its number, and what stands beneath it.
type twig struct {
	label  string
	number int
	kids   []twig
}

// numbered: a tree with the numbers of its nodes, from a first one on, and the
// number behind them.
func numbered(x api.Tree, next int) (twig, int) {
	t := twig{label: x.Label}
	for _, kid := range x.Kids {
		var k twig
		k, next = numbered(kid, next)
		t.kids = append(t.kids, k)
	}
	t.number = next
	return t, next + 1
}

// span: the numbers of the first node of a forest and of the one behind it.
func span(f []twig) (int, int) {
	if len(f) == 0 {
		return 0, 0
	}
	first := f[0]
	for len(first.kids) > 0 {
		first = first.kids[0]
	}
	return first.number, f[len(f)-1].number + 1
}

// without: a forest whose last root is gone; its kids stand in its place.
func without(f []twig) []twig {
	last := len(f) - 1
	var rest []twig
	rest = append(rest, f[:last]...)
	return append(rest, f[last].kids...)
}

// differ: what it costs to give one the label of the other one.
func differ(v, w twig) int {
	if v.label == w.label {
		return 0
	}
	return 1
}

// reckoner knows what forests of one pair of trees cost, by where both begin
// and end; and how often it took which branch of point 3's rule.
type reckoner struct {
	known map[[4]int]int
	took  *branches
}

// branches of the rule: how often each was taken, and how often one was taken
// though a later one would have cost no more either.
type branches struct {
	nodes, trees, away, in         int
	nodesTied, treesTied, awayTied int
}

// least: what it costs to make one forest the other one: the last roots stay
// as each other, or one of them is taken away, or put in.
func (r *reckoner) least(f, g []twig) int {
	x, i := span(f)
	y, j := span(g)
	if len(f) == 0 || len(g) == 0 {
		return i - x + j - y
	}
	key := [4]int{x, i, y, j}
	if cost, ok := r.known[key]; ok {
		return cost
	}
	v, w := f[len(f)-1], g[len(g)-1]
	stay := r.least(f[:len(f)-1], g[:len(g)-1]) + r.least(v.kids, w.kids) + differ(v, w)
	cost := min(stay, r.least(without(f), g)+1, r.least(f, without(g))+1)
	r.known[key] = cost
	return cost
}

// best: point 3's rule, branch by branch.
func (r *reckoner) best(f, g []twig) []api.Pair {
	if len(f) == 0 || len(g) == 0 {
		return nil
	}
	v, w := f[len(f)-1], g[len(g)-1]
	least := r.least(f, g)
	away := r.least(without(f), g)+1 <= least
	in := r.least(f, without(g))+1 <= least
	if len(f) == 1 && len(g) == 1 {
		if r.least(v.kids, w.kids)+differ(v, w) <= least {
			count(&r.took.nodes, true)
			count(&r.took.nodesTied, away || in)
			return append(r.best(v.kids, w.kids), api.Pair{A: v.number, B: w.number})
		}
	} else {
		f, g, v, w := f[:len(f)-1], g[:len(g)-1], f[len(f)-1:], g[len(g)-1:]
		if r.least(f, g)+r.least(v, w) <= least {
			count(&r.took.trees, true)
			count(&r.took.treesTied, away || in)
			return append(r.best(f, g), r.best(v, w)...)
		}
	}
	if away {
		count(&r.took.away, true)
		count(&r.took.awayTied, in)
		return r.best(without(f), g)
	}
	count(&r.took.in, true)
	return r.best(f, without(g))
}

// count one more, if it is so.
func count(n *int, so bool) {
	if so {
		*n++
	}
}

// tell: a forest as a text.
func tell(f []api.Tree) string {
	s := ""
	for _, x := range f {
		s += x.Label + "(" + tell(x.Kids) + ")"
	}
	return s
}

// lists: all forests of so many nodes with these labels.
func lists(nodes int, labels string) [][]api.Tree {
	if nodes == 0 {
		return [][]api.Tree{nil}
	}
	var all [][]api.Tree
	for first := 1; first <= nodes; first++ {
		for _, kids := range lists(first-1, labels) {
			for _, rest := range lists(nodes-first, labels) {
				for _, label := range labels {
					x := api.Tree{Label: string(label), Kids: kids}
					all = append(all, append([]api.Tree{x}, rest...))
				}
			}
		}
	}
	return all
}

// trees: all of up to so many nodes with these labels.
func trees(nodes int, labels string) []api.Tree {
	var all []api.Tree
	for n := 1; n <= nodes; n++ {
		for _, kids := range lists(n-1, labels) {
			for _, label := range labels {
				all = append(all, api.Tree{Label: string(label), Kids: kids})
			}
		}
	}
	return all
}

// web: all forests of up to so many nodes, by their texts, and which comes of
// which by one deed that costs 1.
type web struct {
	place map[string]int
	next  [][]int
}

// weave: the web of forests of up to so many nodes with these labels.
func weave(nodes int, labels string) web {
	w := web{place: map[string]int{}}
	var all [][]api.Tree
	for n := 0; n <= nodes; n++ {
		all = append(all, lists(n, labels)...)
	}
	for i, f := range all {
		w.place[tell(f)] = i
	}
	for _, f := range all {
		var next []int
		deeds(f, labels, func(g []api.Tree) {
			if i, ok := w.place[tell(g)]; ok {
				next = append(next, i)
			}
		})
		w.next = append(w.next, next)
	}
	return w
}

// joined: lists one behind the other, in new memory.
func joined(l ...[]api.Tree) []api.Tree {
	var all []api.Tree
	for _, x := range l {
		all = append(all, x...)
	}
	return all
}

// deeds hands to each what one deed makes of a forest: a node gets another
// label, is taken away, or is put in above some that stand beside each other.
func deeds(f []api.Tree, labels string, each func(g []api.Tree)) {
	for i, x := range f {
		put := func(l ...api.Tree) { each(joined(f[:i], l, f[i+1:])) }
		put(x.Kids...)
		for _, label := range labels {
			put(api.Tree{Label: string(label), Kids: x.Kids})
		}
		deeds(x.Kids, labels, func(kids []api.Tree) { put(api.Tree{Label: x.Label, Kids: kids}) })
	}
	for i := 0; i <= len(f); i++ {
		for j := i; j <= len(f); j++ {
			for _, label := range labels {
				x := api.Tree{Label: string(label), Kids: f[i:j]}
				each(joined(f[:i], []api.Tree{x}, f[j:]))
			}
		}
	}
}

// from: how many deeds it takes from one forest to each.
func (w web) from(f []api.Tree) []int {
	far := make([]int, len(w.next))
	for i := range far {
		far[i] = -1
	}
	todo := []int{w.place[tell(f)]}
	far[todo[0]] = 0
	for len(todo) > 0 {
		at := todo[0]
		todo = todo[1:]
		for _, next := range w.next[at] {
			if far[next] < 0 {
				far[next] = far[at] + 1
				todo = append(todo, next)
			}
		}
	}
	return far
}
