package book_test

import (
	"math"
	"slices"
	"testing"

	"pleaching/api"
	"pleaching/book"
	"pleaching/deed"
	"pleaching/dist"
	"pleaching/merge"
	"pleaching/script"
	"pleaching/tree"
)

// This file reckons a second time what package book answers, from all trees
// that were added, which the test keeps itself (shelf): since when nodes have
// been there, by deeds done to twigs that know it themselves (twig), and by the
// nodes that stay by package dist (byPairs).

// twig: a node that knows since when it has been there.
type twig struct {
	label string
	since int
	kids  []*twig
}

func planted(x api.Tree, since int) *twig {
	w := &twig{label: x.Label, since: since}
	for _, kid := range x.Kids {
		w.kids = append(w.kids, planted(kid, since))
	}
	return w
}

func (w *twig) at(path []int) *twig {
	for _, kid := range path {
		w = w.kids[kid]
	}
	return w
}

// do a deed; what comes has been there since the tree now.
func (w *twig) do(d api.Deed, now int) {
	switch d.Kind {
	case api.DName:
		w.at(d.Path).label = d.Label
	case api.DDelete:
		last := len(d.Path) - 1
		above, kid := w.at(d.Path[:last]), d.Path[last]
		above.kids = slices.Concat(above.kids[:kid], above.kids[kid].kids, above.kids[kid+1:])
	case api.DInsert:
		above, to := w.at(d.Path), d.At+d.Many
		one := &twig{label: d.Label, since: now, kids: slices.Clone(above.kids[d.At:to])}
		above.kids = slices.Concat(above.kids[:d.At], []*twig{one}, above.kids[to:])
	}
}

// told: the tree, and since when each node has been there, each behind all
// beneath it, from the left.
func (w *twig) told() (api.Tree, []int) {
	x, since := api.Tree{Label: w.label}, []int{}
	for _, kid := range w.kids {
		y, more := kid.told()
		x.Kids, since = append(x.Kids, y), append(since, more...)
	}
	return x, append(since, w.since)
}

// shelf: a book, and all trees that were added to it.
type shelf struct {
	book  *book.Book
	trees []api.Tree
}

func newShelf() *shelf { return &shelf{book: book.New()} }

// shelved: a shelf of these trees.
func shelved(t *testing.T, trees ...api.Tree) *shelf {
	t.Helper()
	s := newShelf()
	for _, x := range trees {
		s.add(t, x)
	}
	return s
}

// add a tree, which must get the next number.
func (s *shelf) add(t *testing.T, x api.Tree) {
	t.Helper()
	want := len(s.trees)
	if number, code := s.book.Add(x); number != want || code != 0 {
		t.Fatalf("Add(%v): %d, %d, want the number %d", x, number, code, want)
	}
	s.trees = append(s.trees, copied(x))
}

// copied: a tree like that, in new memory.
func copied(x api.Tree) api.Tree {
	y, _ := planted(x, 0).told()
	return y
}

// step: script.Diff of the tree ahead of one, and that one.
func (s *shelf) step(t *testing.T, number int) []api.Deed {
	t.Helper()
	l, code := script.Diff(s.trees[number-1], s.trees[number])
	if code != 0 {
		t.Fatalf("Diff(%v, %v): %d", s.trees[number-1], s.trees[number], code)
	}
	return l
}

// blames: point 1 by its words, of all trees.
func (s *shelf) blames(t *testing.T) [][]int {
	t.Helper()
	var all [][]int
	var w *twig
	for number, x := range s.trees {
		if number == 0 {
			w = planted(x, 0)
		} else {
			for _, d := range s.step(t, number) {
				w.do(d, number)
			}
		}
		y, since := w.told()
		if !tree.Same(x, y) {
			t.Fatalf("the steps make %v of the trees up to %v", y, x)
		}
		all = append(all, since)
	}
	return all
}

// byPairs: the same, by the nodes that stay.
func (s *shelf) byPairs(t *testing.T) [][]int {
	t.Helper()
	var all [][]int
	for number, x := range s.trees {
		since := slices.Repeat([]int{number}, tree.Size(x))
		if number > 0 {
			table, _ := dist.Of(s.trees[number-1], x)
			for _, p := range table.Best() {
				since[p.B] = all[number-1][p.A]
			}
		}
		all = append(all, since)
	}
	return all
}

// beyond: numbers that no tree has in a book of so many.
func beyond(trees int) []int {
	return []int{-1, -2, -trees, -trees - 1, -api.MaxTrees, math.MinInt, math.MinInt + 1, math.MinInt32, -1 << 32,
		trees, trees + 1, trees + api.MaxTrees, 1 << 32, 1<<32 + trees, math.MaxInt32, math.MaxInt - 1, math.MaxInt}
}

// holds the book against the trees of the shelf: all that is told of each.
func (s *shelf) holds(t *testing.T, what string) {
	t.Helper()
	if many := s.book.Len(); many != len(s.trees) {
		t.Fatalf("%s: Len is %d, want %d", what, many, len(s.trees))
	}
	deeds, blames := 0, s.blames(t)
	for number := range s.trees {
		s.holdsGet(t, what, number)
		deeds += s.holdsStep(t, what, number)
		if since, code := s.book.Blame(number); code != 0 || !slices.Equal(since, blames[number]) {
			t.Errorf("%s: Blame(%d): %v, %d, want %v", what, number, since, code, blames[number])
		}
	}
	if got := s.book.Deeds(); got != deeds {
		t.Errorf("%s: Deeds is %d, want %d", what, got, deeds)
	}
	if pairs := s.byPairs(t); !slices.EqualFunc(pairs, blames, slices.Equal[[]int]) {
		t.Errorf("%s: the steps say %v, and the nodes that stay %v", what, blames, pairs)
	}
}

func (s *shelf) holdsGet(t *testing.T, what string, number int) {
	t.Helper()
	if x, ok := s.book.Get(number); !ok || !tree.Same(x, s.trees[number]) {
		t.Errorf("%s: Get(%d): %v, %t, want %v", what, number, x, ok, s.trees[number])
	}
}

// holdsStep: and how many deeds the step has.
func (s *shelf) holdsStep(t *testing.T, what string, number int) int {
	t.Helper()
	l, ok := s.book.Step(number)
	if number == 0 {
		if ok || len(l) != 0 {
			t.Errorf("%s: Step(0): %v, %t", what, l, ok)
		}
		return 0
	}
	if want := s.step(t, number); !ok || !sameDeeds(l, want) {
		t.Errorf("%s: Step(%d): %v, %t, want %v", what, number, l, ok, want)
	}
	x, y := s.trees[number-1], s.trees[number]
	if z, _, fault := script.Run(x, l); fault != (api.Fault{}) || !tree.Same(z, y) {
		t.Errorf("%s: Step(%d) makes %v of %v, %v, want %v", what, number, z, x, fault, y)
	}
	return len(l)
}

// with holds With of a tree that is there against deed.Do, and tells its code.
func (s *shelf) with(t *testing.T, number int, d api.Deed) int {
	t.Helper()
	want, _, code := deed.Do(s.trees[number], d)
	if x, got := s.book.With(number, d); got != code || !tree.Same(x, want) {
		t.Errorf("With(%d, %v): %v, %d, want %v, %d", number, d, x, got, want, code)
	}
	return code
}

// merge holds Merge of trees that are there against merge.Merge, and tells its
// code.
func (s *shelf) merge(t *testing.T, o, x, y int) int {
	t.Helper()
	want, path, code := merge.Merge(s.trees[o], s.trees[x], s.trees[y])
	m, way, got := s.book.Merge(o, x, y)
	if got != code || !tree.Same(m, want) || !slices.Equal(way, path) {
		t.Errorf("Merge(%d, %d, %d): %v, %v, %d, want %v, %v, %d", o, x, y, m, way, got, want, path, code)
	}
	return code
}

// mergeAll: each three of the trees.
func (s *shelf) mergeAll(t *testing.T) {
	t.Helper()
	for o := range s.trees {
		for x := range s.trees {
			for y := range s.trees {
				s.merge(t, o, x, y)
			}
		}
	}
}

// lacks fails the test unless the book answers nothing of a number that no tree
// has, whatever else it is asked.
func (s *shelf) lacks(t *testing.T, number int) {
	t.Helper()
	if x, ok := s.book.Get(number); ok || !tree.Same(x, api.Tree{}) {
		t.Errorf("Get(%d): %v, %t, of %d trees", number, x, ok, len(s.trees))
	}
	if l, ok := s.book.Step(number); ok || len(l) != 0 {
		t.Errorf("Step(%d): %v, %t, of %d trees", number, l, ok, len(s.trees))
	}
	if since, code := s.book.Blame(number); code != api.ErrNone || len(since) != 0 {
		t.Errorf("Blame(%d): %v, %d, of %d trees", number, since, code, len(s.trees))
	}
	for _, d := range []api.Deed{named("x"), deleted(0), inserted("x", 0, 0), deleted(), named("x", 9), {}} {
		if x, code := s.book.With(number, d); code != api.ErrNone || !tree.Same(x, api.Tree{}) {
			t.Errorf("With(%d, %v): %v, %d, of %d trees", number, d, x, code, len(s.trees))
		}
	}
}

// lacksOneOf fails the test unless a merge, of which one is not there, answers
// nothing.
func (s *shelf) lacksOneOf(t *testing.T, o, x, y int) {
	t.Helper()
	if m, path, code := s.book.Merge(o, x, y); code != api.ErrNone || len(path) != 0 || !tree.Same(m, api.Tree{}) {
		t.Errorf("Merge(%d, %d, %d): %v, %v, %d, of %d trees", o, x, y, m, path, code, len(s.trees))
	}
}

// sameDeeds: are they the same, one by one?
func sameDeeds(a, b []api.Deed) bool {
	return slices.EqualFunc(a, b, deed.Same)
}
