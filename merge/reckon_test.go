package merge_test

import (
	"slices"
	"strconv"
	"testing"

	"pleaching/api"
	"pleaching/merge"
	"pleaching/tree"
)

// This file reckons a second time what package merge answers: Common on texts,
// by asking again and again how many pairs there are (most), and by a search in
// all that one list has, in order (search); Merge by the chapter's words, with
// nothing that gives up (mix).

// told: a node and all beneath it as a text, other ones as other texts.
func told(t api.Tree) string {
	s := strconv.Quote(t.Label) + "("
	for _, kid := range t.Kids {
		s += told(kid)
	}
	return s + ")"
}

func allTold(l []api.Tree) []string {
	var all []string
	for _, t := range l {
		all = append(all, told(t))
	}
	return all
}

func alike(a, b []api.Tree) bool {
	return slices.Equal(allTold(a), allTold(b))
}

// texts: two lists, and how many pairs there are behind places of both, so far
// as that was asked.
type texts struct {
	a, b  []string
	known map[[2]int]int
}

// most: how many pairs there are from two places on.
func (x texts) most(i, j int) int {
	if i == len(x.a) || j == len(x.b) {
		return 0
	}
	many, ok := x.known[[2]int{i, j}]
	if !ok {
		many = max(x.most(i+1, j), x.most(i, j+1))
		if x.a[i] == x.b[j] {
			many = max(many, 1+x.most(i+1, j+1))
		}
		x.known[[2]int{i, j}] = many
	}
	return many
}

// from: point 1 by its words, from two places on.
func (x texts) from(i, j int) []api.Pair {
	if i == len(x.a) || j == len(x.b) {
		return nil
	}
	if x.a[i] == x.b[j] {
		return append([]api.Pair{{A: i, B: j}}, x.from(i+1, j+1)...)
	}
	if x.most(i+1, j) >= x.most(i, j+1) {
		return x.from(i+1, j)
	}
	return x.from(i, j+1)
}

func common(a, b []api.Tree) []api.Pair {
	return texts{allTold(a), allTold(b), map[[2]int]int{}}.from(0, 0)
}

// search: how many pairs there can be: of all choices among the first list's
// the greatest that the second one has in the same order.
func search(a, b []api.Tree) int {
	first, second := allTold(a), allTold(b)
	greatest := 0
	for choice := range 1 << len(first) {
		many, rest := 0, second
		for i, s := range first {
			if choice>>i&1 == 0 {
				continue
			}
			at := slices.Index(rest, s)
			if at < 0 {
				many = -1
				break
			}
			many, rest = many+1, rest[at+1:]
		}
		greatest = max(greatest, many)
	}
	return greatest
}

// shares holds what Common answers against the second reckoning.
func shares(t *testing.T, a, b []api.Tree) []api.Pair {
	t.Helper()
	l := merge.Common(a, b)
	if want := common(a, b); !slices.Equal(l, want) {
		t.Errorf("Common(%v, %v): %v, want %v", a, b, l, want)
	}
	last := api.Pair{A: -1, B: -1}
	for _, p := range l {
		if p.A <= last.A || p.B <= last.B || p.A >= len(a) || p.B >= len(b) || told(a[p.A]) != told(b[p.B]) {
			t.Errorf("Common(%v, %v): %v, of which %v can't be behind %v", a, b, l, p, last)
			return l
		}
		last = p
	}
	return l
}

// outcome of a merge: the nodes that come, if it does not clash; else the path.
type outcome struct {
	trees   []api.Tree
	path    []int
	clashes bool
}

// clashAt: it clashes at a path, which goes on to be another one's beginning.
func clashAt(path []int) outcome {
	return outcome{path: slices.Clone(path), clashes: true}
}

// mix: point 2 by its words, of nodes at a path of o.
func mix(path []int, o, a, b api.Tree) outcome {
	x, y, z := told(o), told(a), told(b)
	if y == z || z == x {
		return outcome{trees: []api.Tree{a}}
	}
	if y == x {
		return outcome{trees: []api.Tree{b}}
	}
	t := api.Tree{}
	switch {
	case a.Label == b.Label:
		t.Label = a.Label
	case b.Label == o.Label:
		t.Label = a.Label
	case a.Label == o.Label:
		t.Label = b.Label
	default:
		return clashAt(path)
	}
	kids := mixKids(path, o.Kids, a.Kids, b.Kids)
	if kids.clashes {
		return kids
	}
	t.Kids = kids.trees
	return outcome{trees: []api.Tree{t}}
}

// mixKids: the kids of nodes at a path of o.
func mixKids(path []int, o, a, b []api.Tree) outcome {
	inA, inB := map[int]int{}, map[int]int{}
	for _, p := range common(o, a) {
		inA[p.A] = p.B
	}
	for _, p := range common(o, b) {
		inB[p.A] = p.B
	}
	// What stands ahead of the first, and behind the last, stands between two
	// that are held, too, if one more is held ahead of all and behind all.
	inA[len(o)], inB[len(o)] = len(a), len(b)
	last := [3]int{-1, -1, -1}
	var all []api.Tree
	for i := range len(o) + 1 {
		j, first := inA[i]
		k, second := inB[i]
		if !first || !second {
			continue
		}
		gap := mixBetween(path, last[0]+1, o[last[0]+1:i], a[last[1]+1:j], b[last[2]+1:k])
		if gap.clashes {
			return gap
		}
		all = append(all, gap.trees...)
		if i < len(o) {
			all = append(all, o[i])
		}
		last = [3]int{i, j, k}
	}
	return outcome{trees: all}
}

// mixBetween: the kids between two held ones, of which o's begin at a place.
func mixBetween(path []int, from int, o, a, b []api.Tree) outcome {
	if alike(a, o) || alike(a, b) {
		return outcome{trees: b}
	}
	if alike(b, o) {
		return outcome{trees: a}
	}
	if len(o) != len(a) || len(a) != len(b) {
		return clashAt(path)
	}
	var all []api.Tree
	for i := range o {
		one := mix(append(slices.Clone(path), from+i), o[i], a[i], b[i])
		if one.clashes {
			return one
		}
		all = append(all, one.trees...)
	}
	return outcome{trees: all}
}

// answered fails the test unless Merge answers just that.
func answered(t *testing.T, o, a, b, want api.Tree, path []int, code int) {
	t.Helper()
	x, way, got := merge.Merge(o, a, b)
	if got != code || told(x) != told(want) || !slices.Equal(way, path) {
		t.Errorf("Merge(%v, %v, %v): %v, %v, %d, want %v, %v, %d", o, a, b, x, way, got, want, path, code)
	}
}

// merges holds what Merge answers of three trees against the second reckoning,
// both ways round, and tells its code and path.
func merges(t *testing.T, o, a, b api.Tree) ([]int, int) {
	t.Helper()
	want := mix(nil, o, a, b)
	if want.clashes {
		answered(t, o, a, b, api.Tree{}, want.path, api.ErrClash)
		answered(t, o, b, a, api.Tree{}, want.path, api.ErrClash)
		if _, ok := tree.At(o, want.path); !ok {
			t.Errorf("Merge(%v, %v, %v): clashes at %v, where there is no node", o, a, b, want.path)
		}
		return want.path, api.ErrClash
	}
	x := want.trees[0]
	code := 0
	if tree.Size(x) > api.MaxNodes {
		x, code = api.Tree{}, api.ErrMany
	}
	answered(t, o, a, b, x, nil, code)
	answered(t, o, b, a, x, nil, code)
	return nil, code
}

// leftAlone fails the test unless what one left alone is the other one's: a
// tree merged with the first one itself, or with itself, is itself.
func leftAlone(t *testing.T, o, a api.Tree) {
	t.Helper()
	answered(t, o, a, o, a, nil, 0)
	answered(t, o, o, a, a, nil, 0)
	answered(t, o, a, a, a, nil, 0)
}
