package script_test

import (
	"testing"

	"pleaching/api"
	"pleaching/deed"
	"pleaching/dist"
	"pleaching/script"
	"pleaching/text"
	"pleaching/tree"
)

// This file reckons a second time what package script answers: Run on lines of
// nodes, which no kids are moved in (run); Diff on nodes of which some are
// there, so that no deed is done at all (stand); and how few deeds there can
// be by a search in all small trees (web).

// line of a tree that is a list of its nodes, each ahead of all beneath it,
// from the left, with how many stand above it.
type line struct {
	above int
	label string
}

func lines(t api.Tree, above int) []line {
	l := []line{{above, t.Label}}
	for _, kid := range t.Kids {
		l = append(l, lines(kid, above+1)...)
	}
	return l
}

// starts: the lines of a node's kids, and, behind them, the first that does
// not stand beneath it.
func starts(l []line, i int) []int {
	var at []int
	j := i + 1
	for ; j < len(l) && l[j].above > l[i].above; j++ {
		if l[j].above == l[i].above+1 {
			at = append(at, j)
		}
	}
	return append(at, j)
}

// find: the line of the node at a path; -1: there is none.
func find(l []line, path []int) int {
	i := 0
	for _, kid := range path {
		at := starts(l, i)
		if kid >= len(at)-1 {
			return -1
		}
		i = at[kid]
	}
	return i
}

// over: what is wrong with lines of a tree: too many, too deep.
func over(l []line) int {
	if len(l) > api.MaxNodes {
		return api.ErrMany
	}
	for _, x := range l {
		if x.above > api.MaxDeep {
			return api.ErrDeep
		}
	}
	return 0
}

// done: a deed done to the lines of a tree, and what undoes it.
func done(l []line, d api.Deed) ([]line, api.Deed, int) {
	if code := deed.Check(d); code != 0 {
		return nil, api.Deed{}, code
	}
	i := find(l, d.Path)
	if i < 0 {
		return nil, api.Deed{}, api.ErrNone
	}
	m := append([]line{}, l...)
	at := starts(l, i)
	kids := len(at) - 1
	switch d.Kind {
	case api.DName:
		m[i].label = d.Label
		return m, named(l[i].label, d.Path...), 0
	case api.DDelete:
		for j := i; j < at[kids]; j++ {
			m[j].above--
		}
		last := len(d.Path) - 1
		return append(m[:i], m[i+1:]...), inserted(l[i].label, d.Path[last], kids, d.Path[:last]...), 0
	}
	if d.At > kids || d.Many > kids-d.At {
		return nil, api.Deed{}, api.ErrRange
	}
	for j := at[d.At]; j < at[d.At+d.Many]; j++ {
		m[j].above++
	}
	grown := append([]line{}, m[:at[d.At]]...)
	grown = append(grown, line{l[i].above + 1, d.Label})
	grown = append(grown, m[at[d.At]:]...)
	return grown, deleted(append(append([]int{}, d.Path...), d.At)...), over(grown)
}

// run: point 1 by its words, on lines.
func run(x api.Tree, l []api.Deed) ([]line, []api.Deed, api.Fault) {
	if code := tree.Check(x); code != 0 {
		return nil, nil, api.Fault{Code: code, At: -1}
	}
	if len(l) > api.MaxOps {
		return nil, nil, api.Fault{Code: api.ErrMany, At: -1}
	}
	at, back := lines(x, 0), []api.Deed{}
	for number, d := range l {
		next, undo, code := done(at, d)
		if code != 0 {
			return nil, nil, api.Fault{Code: code, At: number}
		}
		at, back = next, append([]api.Deed{undo}, back...)
	}
	return at, back, api.Fault{}
}

// stand: nodes of a tree, by their numbers, and which of them are there. What
// stands beneath one that isn't there stands beneath the next above it that is.
type stand struct {
	nodes []api.Node
	there []bool
}

// above: the number of the next node above one that is there.
func (s stand) above(n int) int {
	n = s.nodes[n].Parent
	for n >= 0 && !s.there[n] {
		n = s.nodes[n].Parent
	}
	return n
}

// kids: how many of the nodes with numbers from one on to another stand next
// beneath a node.
func (s stand) kids(of, from, to int) int {
	many := 0
	for n := from; n < to; n++ {
		if s.there[n] && s.above(n) == of {
			many++
		}
	}
	return many
}

func (s stand) path(n int) []int {
	above := s.above(n)
	if above < 0 {
		return nil
	}
	return append(s.path(above), s.kids(above, 0, n))
}

// diff: point 2 by its words.
func diff(a, b api.Tree) []api.Deed {
	table, _ := dist.Of(a, b)
	first, second := table.Nodes()
	x, y := stand{first, make([]bool, len(first))}, stand{second, make([]bool, len(second))}
	as := map[int]int{}
	stays := make([]bool, len(first))
	for _, p := range table.Best() {
		as[p.A], stays[p.A], y.there[p.B] = p.B, true, true
	}
	for n := range first {
		x.there[n] = true
	}
	var l []api.Deed
	for n := range first {
		if !stays[n] {
			l = append(l, deleted(x.path(n)...))
			x.there[n] = false
		}
	}
	for n, node := range first {
		if stays[n] && node.Label != second[as[n]].Label {
			l = append(l, named(second[as[n]].Label, x.path(n)...))
		}
	}
	for n := len(second) - 1; n >= 0; n-- {
		if !y.there[n] {
			above, left := y.above(n), second[n].Left
			l = append(l, inserted(second[n].Label, y.kids(above, 0, left), y.kids(above, left, n), y.path(above)...))
			y.there[n] = true
		}
	}
	return l
}

// sameDeeds: are they the same, one by one?
func sameDeeds(a, b []api.Deed) bool {
	if len(a) != len(b) {
		return false
	}
	for i := range a {
		if !deed.Same(a[i], b[i]) {
			return false
		}
	}
	return true
}

func sameLines(a, b []line) bool {
	if len(a) != len(b) {
		return false
	}
	for i := range a {
		if a[i] != b[i] {
			return false
		}
	}
	return true
}

// ran holds what Run answers against the second reckoning, undoes it, and
// tells whether all deeds could be done.
func ran(t *testing.T, x api.Tree, l []api.Deed) bool {
	t.Helper()
	want, undo, fault := run(x, l)
	if fault.Code != 0 {
		fails(t, "what is reckoned a second time", x, l, fault)
		return false
	}
	y, back, got := script.Run(x, l)
	if got != fault || !sameLines(lines(y, 0), want) || !sameDeeds(back, undo) {
		t.Errorf("Run(%v, %v): %v, %v, %v, want %v, %v", x, l, y, back, got, want, undo)
	}
	undone(t, x, l)
	return true
}

// differs holds what Diff answers against the second reckoning and the Cost,
// and does its deeds.
func differs(t *testing.T, a, b api.Tree) []api.Deed {
	t.Helper()
	l, code := script.Diff(a, b)
	if want := diff(a, b); code != 0 || !sameDeeds(l, want) {
		t.Errorf("Diff(%v, %v): %v, %d, want %v", a, b, l, code, want)
		return l
	}
	if table, _ := dist.Of(a, b); len(l) != table.Cost() {
		t.Errorf("Diff(%v, %v): %d deeds, and Cost is %d", a, b, len(l), table.Cost())
	}
	if y, _, fault := script.Run(a, l); fault != (api.Fault{}) || !tree.Same(y, b) {
		t.Errorf("Diff(%v, %v): %v, which make %v, %v", a, b, l, y, fault)
	}
	undone(t, a, l)
	return l
}

// paths: those of all nodes of a tree.
func paths(t api.Tree) [][]int {
	all := [][]int{nil}
	for i, kid := range t.Kids {
		for _, path := range paths(kid) {
			all = append(all, append([]int{i}, path...))
		}
	}
	return all
}

// deeds: all that can be done to a tree, with these labels.
func deeds(x api.Tree, labels ...string) []api.Deed {
	var all []api.Deed
	for _, path := range paths(x) {
		if len(path) > 0 {
			all = append(all, deleted(path...))
		}
		node, _ := tree.At(x, path)
		for _, label := range labels {
			all = append(all, named(label, path...))
			for at := range len(node.Kids) + 1 {
				for many := range len(node.Kids) - at + 1 {
					all = append(all, inserted(label, at, many, path...))
				}
			}
		}
	}
	return all
}

// web: all trees of up to so many nodes, by their texts, and which come of
// which by a script of one deed.
type web struct {
	trees []api.Tree
	place map[string]int
	next  [][]int
}

// weave: the web of trees with these labels.
func weave(t *testing.T, nodes int, labels ...string) *web {
	t.Helper()
	w := &web{place: map[string]int{}}
	w.put(n(labels[0]))
	for i := 0; i < len(w.trees); i++ {
		var next []int
		for _, d := range deeds(w.trees[i], labels...) {
			y, _, fault := script.Run(w.trees[i], []api.Deed{d})
			if fault.Code != 0 {
				t.Fatalf("Run(%v, %v): %v", w.trees[i], d, fault)
			}
			if tree.Size(y) <= nodes {
				next = append(next, w.put(y))
			}
		}
		w.next = append(w.next, next)
	}
	return w
}

// put: the place of a tree, a new one, if it has none yet.
func (w *web) put(x api.Tree) int {
	s, _ := text.Print(x)
	i, ok := w.place[s]
	if !ok {
		i = len(w.trees)
		w.place[s] = i
		w.trees = append(w.trees, x)
	}
	return i
}

// from: how many deeds it takes from the tree at a place to each.
func (w *web) from(place int) []int {
	far := make([]int, len(w.trees))
	for i := range far {
		far[i] = -1
	}
	far[place] = 0
	todo := []int{place}
	for len(todo) > 0 {
		at := todo[0]
		todo = todo[1:]
		for _, next := range w.next[at] {
			if far[next] < 0 {
				far[next] = far[at] + 1
				todo = append(todo, next)
			}
		}
	}
	return far
}
