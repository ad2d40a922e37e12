package book_test

import (
	"fmt"
	"math/rand"
	"reflect"
	"slices"
	"strings"
	"testing"
	"time"

	"pleaching/api"
	"pleaching/book"
	"pleaching/deed"
	"pleaching/text"
	"pleaching/tree"
)

// n: a node with that label and those kids.
func n(label string, kids ...api.Tree) api.Tree {
	return api.Tree{Label: label, Kids: kids}
}

func named(label string, path ...int) api.Deed {
	return api.Deed{Kind: api.DName, Path: path, Label: label}
}

func deleted(path ...int) api.Deed {
	return api.Deed{Kind: api.DDelete, Path: path}
}

func inserted(label string, at, many int, path ...int) api.Deed {
	return api.Deed{Kind: api.DInsert, Path: path, At: at, Many: many, Label: label}
}

// list of these deeds.
func list(l ...api.Deed) []api.Deed { return l }

// read: the tree of a text.
func read(t *testing.T, s string) api.Tree {
	t.Helper()
	x, fault := text.Parse(s)
	if fault.Code != 0 {
		t.Fatalf("Parse(%q): %v", s, fault)
	}
	return x
}

// readAll: the trees of texts.
func readAll(t *testing.T, texts ...string) []api.Tree {
	t.Helper()
	var all []api.Tree
	for _, s := range texts {
		all = append(all, read(t, s))
	}
	return all
}

// wide: a root and so many kids.
func wide(kids int) api.Tree {
	return n("a", slices.Repeat([]api.Tree{n("b")}, kids)...)
}

// chain: a node beneath so many others.
func chain(above int) api.Tree {
	t := n("z")
	for range above {
		t = n("a", t)
	}
	return t
}

// endless: a tree whose kids lead back to themselves, once round so many lists.
func endless(round int) api.Tree {
	lists := make([][]api.Tree, round)
	for i := range lists {
		lists[i] = []api.Tree{n("b"), n("c")}
	}
	for i := range lists {
		lists[i][1].Kids = lists[(i+1)%round]
	}
	return n("a", lists[0]...)
}

// great: trees that have as many nodes as may be, and, but for the first one,
// nodes as deep as may be.
func great(t *testing.T) []api.Tree {
	t.Helper()
	line := func(above int) string { return strings.Repeat("a(", above) + "z" + strings.Repeat(")", above) }
	low, leaves := line(api.MaxDeep), strings.Repeat(" b", api.MaxNodes-api.MaxDeep-1)
	under := line(api.MaxDeep - 1)
	all := readAll(t,
		"a("+strings.Repeat(" b", api.MaxNodes-1)+")",
		low[:len(low)-1]+leaves+")",
		"x("+leaves+" "+under+")",
		strings.Repeat("c(", api.MaxDeep)+"z"+leaves+strings.Repeat(")", api.MaxDeep),
		"b("+under+" "+strings.ReplaceAll(under, "a", "b")+" "+line(api.MaxDeep-2)+" "+under+")",
	)
	for _, x := range all {
		if size := tree.Size(x); size != api.MaxNodes {
			t.Fatalf("%v has %d nodes", x, size)
		}
	}
	return all
}

// grown: a tree of so many nodes with labels of the first so many letters,
// each put in at a place that r chooses.
func grown(r *rand.Rand, nodes, letters int) api.Tree {
	label := func() string { return string(rune('a' + r.Intn(letters))) }
	x := n(label())
	for tree.Size(x) < nodes {
		at := &x
		for above := 0; above < api.MaxDeep-1 && len(at.Kids) > 0 && r.Intn(3) > 0; above++ {
			at = &at.Kids[r.Intn(len(at.Kids))]
		}
		at.Kids = slices.Insert(at.Kids, r.Intn(len(at.Kids)+1), n(label()))
	}
	return x
}

// paths: those of all nodes of a tree.
func paths(t api.Tree) [][]int {
	all := [][]int{nil}
	for i, kid := range t.Kids {
		for _, path := range paths(kid) {
			all = append(all, append([]int{i}, path...))
		}
	}
	return all
}

// deeds: all that can be done to a tree, with these labels, but for its limits.
func deeds(x api.Tree, labels ...string) []api.Deed {
	var all []api.Deed
	for _, path := range paths(x) {
		if len(path) > 0 {
			all = append(all, deleted(path...))
		}
		node, _ := tree.At(x, path)
		for _, label := range labels {
			all = append(all, named(label, path...))
			for at := range len(node.Kids) + 1 {
				for many := range len(node.Kids) - at + 1 {
					all = append(all, inserted(label, at, many, path...))
				}
			}
		}
	}
	return all
}

// changed: a tree after up to so many deeds that r chooses.
func changed(r *rand.Rand, x api.Tree, many int) api.Tree {
	for range many {
		all := deeds(x, "a", "b", "x")
		if y, _, code := deed.Do(x, all[r.Intn(len(all))]); code == 0 {
			x = y
		}
	}
	return x
}

// smallTrees: all of up to so many nodes with these labels.
func smallTrees(nodes int, labels ...string) []api.Tree {
	all := []api.Tree{n(labels[0])}
	seen := map[string]bool{labels[0]: true}
	for i := 0; i < len(all); i++ {
		for _, d := range deeds(all[i], labels...) {
			y, _, _ := deed.Do(all[i], d)
			if s, _ := text.Print(y); tree.Size(y) <= nodes && !seen[s] {
				seen[s] = true
				all = append(all, y)
			}
		}
	}
	return all
}

// chosenBook: a shelf of so many trees that r chooses: some that are the one
// ahead, or one further ahead, again, some that came of it by a few deeds, and
// some that are quite others.
func chosenBook(t *testing.T, r *rand.Rand, many, nodes int) *shelf {
	t.Helper()
	s := newShelf()
	letters := 1 + r.Intn(4)
	for len(s.trees) < many {
		x := grown(r, 1+r.Intn(nodes), letters)
		if before := len(s.trees); before > 0 {
			switch r.Intn(8) {
			case 0:
				x = s.trees[before-1]
			case 1:
				x = s.trees[r.Intn(before)]
			case 2, 3, 4, 5, 6:
				x = changed(r, s.trees[before-1], 1+r.Intn(5))
			}
		}
		s.add(t, x)
	}
	return s
}

// TestNew: a book without trees.
func TestNew(t *testing.T) {
	s := newShelf()
	for range 2 {
		s.holds(t, "a new book")
		for _, number := range append(beyond(0), 0, 1) {
			s.lacks(t, number)
			s.lacksOneOf(t, number, number, number)
			s.lacksOneOf(t, 0, 0, number)
		}
	}
	if s.book.Len() != 0 || s.book.Deeds() != 0 {
		t.Errorf("a new book has %d trees, %d deeds", s.book.Len(), s.book.Deeds())
	}
}

// TestOne: a book of one tree, from as small to as great as may be.
func TestOne(t *testing.T) {
	for _, x := range append(great(t), n("a"), n("abcdef"), n("a", n("b")), chain(api.MaxDeep), read(t, "a(b(c) d)")) {
		s := shelved(t, x)
		s.holds(t, "a book of one tree")
		if since, code := s.book.Blame(0); code != 0 || !slices.Equal(since, make([]int, tree.Size(x))) {
			t.Errorf("Blame(0) of %v: %v, %d", x, since, code)
		}
		if s.book.Len() != 1 || s.book.Deeds() != 0 {
			t.Errorf("a book of one tree has %d trees, %d deeds", s.book.Len(), s.book.Deeds())
		}
		if m, path, code := s.book.Merge(0, 0, 0); code != 0 || len(path) != 0 || !tree.Same(m, x) {
			t.Errorf("Merge(0, 0, 0) of %v: %v, %v, %d", x, m, path, code)
		}
		for _, number := range beyond(1) {
			s.lacks(t, number)
		}
	}
}

// TestSteps: books whose steps are told by hand: nodes that get another label,
// go and come, and trees that are added as they were.
func TestSteps(t *testing.T) {
	for _, c := range []struct {
		trees []string
		steps [][]api.Deed
	}{
		{[]string{"a(b c)", "a(b c)", "a(b c)"}, [][]api.Deed{nil, nil}},
		{[]string{"a", "b", "a"}, [][]api.Deed{list(named("b")), list(named("a"))}},
		{[]string{"a(b(c) d)", "a(c e(d))"}, [][]api.Deed{list(deleted(0), inserted("e", 1, 1))}},
		{
			[]string{"a(b c)", "a(b(d) c)", "a(d x)", "a(d x)", "a"},
			[][]api.Deed{list(inserted("d", 0, 0, 0)), list(deleted(0), named("x", 1)), nil, list(deleted(0), deleted(0))},
		},
		{
			[]string{"a(x(b c) d(e))", "q(b y(c d(f)))", "a(x(b c) d(e))"},
			[][]api.Deed{
				list(deleted(0), named("f", 2, 0), named("q"), inserted("y", 1, 2)),
				list(deleted(1), named("e", 2, 0), named("a"), inserted("x", 0, 2)),
			},
		},
	} {
		s := shelved(t, readAll(t, c.trees...)...)
		s.holds(t, strings.Join(c.trees, ", "))
		many := 0
		for i, want := range c.steps {
			many += len(want)
			if l, ok := s.book.Step(i + 1); !ok || !sameDeeds(l, want) {
				t.Errorf("Step(%d) of %v: %v, %t, want %v", i+1, c.trees, l, ok, want)
			}
		}
		if got := s.book.Deeds(); got != many {
			t.Errorf("Deeds of %v: %d, want %d", c.trees, got, many)
		}
		s.mergeAll(t)
	}
}

// TestBlame: nodes that stay, get another label, go, come, come again, are
// moved beneath one that came, and come above some, told by hand.
func TestBlame(t *testing.T) {
	for _, c := range []struct {
		what  string
		trees []string
		want  [][]int
	}{
		{"all stay", []string{"a(b c)", "a(b c)", "a(b c)"}, [][]int{{0, 0, 0}, {0, 0, 0}, {0, 0, 0}}},
		{"other labels", []string{"a(b c)", "a(x c)", "z(x c)", "z(x y)"}, [][]int{{0, 0, 0}, {0, 0, 0}, {0, 0, 0}, {0, 0, 0}}},
		{"some come", []string{"a(b)", "a(b c)", "a(d b c)", "a(d b(e) c)"}, [][]int{{0, 0}, {0, 1, 0}, {2, 0, 1, 0}, {2, 3, 0, 1, 0}}},
		{"beneath one that came", []string{"a(b c)", "a(b x(c))", "a(y(b x(c)))"}, [][]int{{0, 0, 0}, {0, 0, 1, 0}, {0, 0, 1, 2, 0}}},
		{"above some", []string{"a(b c d)", "a(x(b c d))", "a(x(b y(c d)))"}, [][]int{{0, 0, 0, 0}, {0, 0, 0, 1, 0}, {0, 0, 0, 2, 1, 0}}},
		{"above none and above all", []string{"a(b c)", "a(x b c)", "a(y(x b c))"}, [][]int{{0, 0, 0}, {1, 0, 0, 0}, {1, 0, 0, 2, 0}}},
		{"it goes, and comes again", []string{"a(b)", "a", "a(b)", "a", "a(b)"}, [][]int{{0, 0}, {0}, {2, 0}, {0}, {4, 0}}},
		{"its kids stand in its place", []string{"a(x(b c))", "a(b c)", "a(b c d)"}, [][]int{{0, 0, 0, 0}, {0, 0, 0}, {0, 0, 2, 0}}},
		{"one that came gets another label", []string{"a", "a(b)", "a(c)", "a(c d)", "z(c e)"}, [][]int{{0}, {1, 0}, {1, 0}, {1, 3, 0}, {1, 3, 0}}},
		{"one that came goes", []string{"a(b)", "a(x b)", "a(b)", "a(b x)"}, [][]int{{0, 0}, {1, 0, 0}, {0, 0}, {0, 3, 0}}},
		{"e comes above d", []string{"a(b(c) d)", "a(c e(d))"}, [][]int{{0, 0, 0, 0}, {0, 0, 1, 0}}},
		{"between two", []string{"a(b(c))", "a(b(x(c)))", "a(c)", "a(y(c))"}, [][]int{{0, 0, 0}, {0, 1, 0, 0}, {0, 0}, {0, 3, 0}}},
		{"all at once", []string{"a(b c)", "q(b y(c d))", "q(y(c d) e)"}, [][]int{{0, 0, 0}, {0, 0, 1, 1, 0}, {0, 1, 1, 2, 0}}},
		{"the root stays, whatever it is called", []string{"a", "b", "b(a)", "c(a)"}, [][]int{{0}, {0}, {2, 0}, {2, 0}}},
	} {
		s := shelved(t, readAll(t, c.trees...)...)
		for number, want := range c.want {
			if since, code := s.book.Blame(number); code != 0 || !slices.Equal(since, want) {
				t.Errorf("%s: Blame(%d): %v, %d, want %v", c.what, number, since, code, want)
			}
		}
		s.holds(t, c.what)
	}
}

// tower: nodes with these labels, each beneath the one ahead.
func tower(labels ...string) api.Tree {
	x := n(labels[len(labels)-1])
	for i := len(labels) - 2; i >= 0; i-- {
		x = n(labels[i], x)
	}
	return x
}

// TestBlameGrows: a node comes with each tree, behind the others, in front of
// them, beneath the lowest, and above all but the root: each is as old as its
// tree.
func TestBlameGrows(t *testing.T) {
	behind, front, down, up := newShelf(), newShelf(), newShelf(), newShelf()
	var labels, turned []string
	var kids, mirrored []api.Tree
	var rising, falling []int
	for number := range api.MaxTrees {
		if number > 0 {
			label := string([]byte{'b', byte('a' + number/6), byte('a' + number%6)})
			labels, turned = append(labels, label), slices.Insert(turned, 0, label)
			kids, mirrored = append(kids, n(label)), slices.Insert(mirrored, 0, n(label))
			rising, falling = append(rising, number), slices.Insert(falling, 0, number)
		}
		behind.grows(t, n("a", kids...), append(slices.Clone(rising), 0))
		front.grows(t, n("a", mirrored...), append(slices.Clone(falling), 0))
		if number <= api.MaxDeep {
			down.grows(t, tower(append([]string{"a"}, labels...)...), append(slices.Clone(falling), 0))
		}
		if number < api.MaxDeep {
			up.grows(t, tower(slices.Concat([]string{"a"}, turned, []string{"z"})...), slices.Concat([]int{0}, rising, []int{0}))
		}
	}
	for _, s := range []*shelf{behind, front, down, up} {
		s.holds(t, "a book whose trees grow")
	}
}

// grows: a tree is added, whose nodes have been there since these trees.
func (s *shelf) grows(t *testing.T, x api.Tree, want []int) {
	t.Helper()
	s.add(t, x)
	number := len(s.trees) - 1
	if since, code := s.book.Blame(number); code != 0 || !slices.Equal(since, want) {
		t.Errorf("Blame(%d) of %v: %v, %d, want %v", number, x, since, code, want)
	}
}

// TestSmall: all books of three trees that are small, and all books of two that
// are a bit greater.
func TestSmall(t *testing.T) {
	small := smallTrees(3, "a", "b")
	for _, x := range small {
		for _, y := range small {
			for _, z := range small {
				shelved(t, x, y, z).holds(t, "a book of small trees")
			}
		}
	}
	greater := smallTrees(4, "a", "b")
	for _, x := range greater {
		for _, y := range greater {
			shelved(t, x, y).holds(t, "a book of small trees")
		}
	}
}

// TestAny: books that r chooses, with all that is asked of them.
func TestAny(t *testing.T) {
	r := rand.New(rand.NewSource(9))
	with, merges, kinds := map[int]int{}, map[int]int{}, map[int]int{}
	for i := range 90 {
		many, nodes := 1+i%api.MaxTrees, 1+r.Intn(api.MaxNodes)
		s := chosenBook(t, r, many, nodes)
		s.holds(t, "a book that r chose")
		for range 40 {
			number := r.Intn(many)
			all := append(deeds(s.trees[number], "p", "q"), deleted(), named("x", 50), named("X"), api.Deed{})
			with[s.with(t, number, all[r.Intn(len(all))])]++
			first := r.Intn(many)
			merges[s.merge(t, first, min(many-1, first+r.Intn(3)), r.Intn(many))]++
		}
		s.holds(t, "a book that r chose, after With and Merge")
		for number := 1; number < many; number++ {
			l, _ := s.book.Step(number)
			for _, d := range l {
				kinds[d.Kind]++
			}
		}
	}
	if with[0] < 100 || with[api.ErrMany] == 0 || with[api.ErrNone] == 0 || merges[0] < 100 || merges[api.ErrClash] < 100 {
		t.Errorf("With had the codes %v, Merge %v: too few of one", with, merges)
	}
	if kinds[api.DName] < 100 || kinds[api.DDelete] < 100 || kinds[api.DInsert] < 100 {
		t.Errorf("the steps had the kinds %v: too few of one", kinds)
	}
}

// TestEachBehind: each tree is had again as it was, and all that was told stays
// told, whichever came behind it.
func TestEachBehind(t *testing.T) {
	r := rand.New(rand.NewSource(10))
	for range 4 {
		whole := chosenBook(t, r, api.MaxTrees, 1+r.Intn(20))
		s := newShelf()
		for _, x := range whole.trees {
			s.add(t, x)
			s.holds(t, "a book to which one is added behind the other")
		}
	}
}

// TestGreat: trees as great and as deep as may be, and as small, behind each
// other.
func TestGreat(t *testing.T) {
	all := append(great(t), n("a"), chain(api.MaxDeep))
	for i := range all {
		s := newShelf()
		for j := range api.MaxTrees {
			s.add(t, all[(i+j*(1+i%3))%len(all)])
		}
		s.holds(t, "a book of great trees")
		for j := range 2 * api.MaxTrees {
			s.merge(t, j%api.MaxTrees, j*7%api.MaxTrees, (j*11+i)%api.MaxTrees)
		}
	}
}

// TestFull: as many trees as may be, and one more.
func TestFull(t *testing.T) {
	r := rand.New(rand.NewSource(11))
	for range 3 {
		s := chosenBook(t, r, api.MaxTrees-1, 12)
		s.add(t, grown(r, 12, 3))
		if s.book.Len() != api.MaxTrees {
			t.Errorf("a full book has %d trees", s.book.Len())
		}
		was := told(s.book)
		for _, x := range []api.Tree{n("a"), s.trees[0], s.trees[api.MaxTrees-1], wide(api.MaxNodes - 1), chain(api.MaxDeep)} {
			refuses(t, s, x, api.ErrFull)
		}
		s.holds(t, "a full book")
		if now := told(s.book); now != was {
			t.Errorf("a full book that refuses a tree changes: %s, want %s", now, was)
		}
		for number := range api.MaxTrees {
			s.with(t, number, named("x"))
			s.merge(t, 0, number, api.MaxTrees-1)
		}
	}
}

// told: all that a book tells of its trees.
func told(b *book.Book) string {
	s := fmt.Sprintln(b.Len(), b.Deeds())
	for number := range b.Len() {
		x, _ := b.Get(number)
		l, _ := b.Step(number)
		since, _ := b.Blame(number)
		s += fmt.Sprintln(x, l, since)
	}
	return s
}

// refuses fails the test unless Add answers that code, and nothing else.
func refuses(t *testing.T, s *shelf, x api.Tree, want int) {
	t.Helper()
	if number, code := s.book.Add(x); number != 0 || code != want {
		t.Errorf("Add to %d trees: %d, %d, want 0, %d", len(s.trees), number, code, want)
	}
}

// noTrees: what is no tree, of each code of tree.Check, and of more than one.
func noTrees() map[string]api.Tree {
	return map[string]api.Tree{
		"no label":                    {},
		"a label of a kid":            n("a", n("b"), n("c", n("D"))),
		"a label too long":            n("a", n("abcdefg")),
		"too many":                    wide(api.MaxNodes),
		"too deep":                    chain(api.MaxDeep + 1),
		"too many, too deep, a label": n("A", append(wide(api.MaxNodes).Kids, chain(api.MaxDeep))...),
		"too deep, a label":           n("A", chain(api.MaxDeep)),
		"without end":                 endless(1),
		"without end, a longer way":   endless(5),
	}
}

// TestRefused: a tree that is none has tree.Check's code, where the book is
// full, too, and changes nothing.
func TestRefused(t *testing.T) {
	r := rand.New(rand.NewSource(12))
	codes := map[int]int{}
	for _, many := range []int{0, 1, 2, 5, api.MaxTrees - 1, api.MaxTrees} {
		s := chosenBook(t, r, many, 10)
		was := told(s.book)
		for what, x := range noTrees() {
			want := tree.Check(x)
			codes[want]++
			for range 2 {
				refuses(t, s, x, want)
			}
			if now := told(s.book); now != was {
				t.Errorf("a book of %d trees that refuses one (%s) changes: %s, want %s", many, what, now, was)
			}
		}
		s.holds(t, "a book that refused trees")
		for _, number := range beyond(many) {
			s.lacks(t, number)
		}
		if many < api.MaxTrees {
			s.add(t, grown(r, 10, 3))
			s.holds(t, "a book that refused trees, and got one more")
		}
	}
	if len(codes) != 3 || codes[api.ErrMany] == 0 || codes[api.ErrDeep] == 0 || codes[api.ErrName] == 0 {
		t.Errorf("the trees that are none have the codes %v", codes)
	}
}

// TestNumbers: the first tree, the last one, and numbers that no tree has, in
// each call, and in each of Merge's three.
func TestNumbers(t *testing.T) {
	r := rand.New(rand.NewSource(13))
	for _, many := range []int{1, 2, 3, 7, api.MaxTrees} {
		s := chosenBook(t, r, many, 8)
		first, last := 0, many-1
		for _, number := range []int{first, last} {
			s.with(t, number, named("x"))
			s.merge(t, first, last, number)
			s.merge(t, number, first, last)
		}
		for _, number := range beyond(many) {
			s.lacks(t, number)
			for _, there := range []int{first, last} {
				s.lacksOneOf(t, number, there, there)
				s.lacksOneOf(t, there, number, there)
				s.lacksOneOf(t, there, there, number)
				s.lacksOneOf(t, there, number, number)
				s.lacksOneOf(t, number, there, number)
				s.lacksOneOf(t, number, number, there)
			}
			for _, other := range beyond(many) {
				s.lacksOneOf(t, number, other, number)
				s.lacksOneOf(t, number, number, other)
			}
		}
		s.holds(t, "a book that was asked for trees that are not there")
	}
}

// bad: a tree, a deed that can't be done to it, and its code.
type bad struct {
	what string
	x    api.Tree
	d    api.Deed
	code int
}

// each: each code of deed.Do, but that of the tree itself.
func each() []bad {
	small := n("a", n("b", n("c")), n("d"))
	return []bad{
		{"no kind", small, api.Deed{Label: "x"}, api.ErrKind},
		{"another kind", small, api.Deed{Kind: 4, Label: "x"}, api.ErrKind},
		{"no form, a name", small, api.Deed{Kind: api.DName, At: 1, Label: "x"}, api.ErrForm},
		{"no form, one away", small, api.Deed{Kind: api.DDelete, Path: []int{0}, Label: "x"}, api.ErrForm},
		{"below 0 in a path", small, deleted(0, -1), api.ErrRange},
		{"At below 0", small, inserted("x", -1, 0), api.ErrRange},
		{"no label", small, named("", 0), api.ErrName},
		{"no label of one put in", small, inserted("X", 0, 0), api.ErrName},
		{"the root away", small, deleted(), api.ErrRoot},
		{"no node to name", small, named("x", 2), api.ErrNone},
		{"no node to take away", small, deleted(0, 0, 0), api.ErrNone},
		{"too far right", small, inserted("x", 3, 0), api.ErrRange},
		{"too many beneath", small, inserted("x", 1, 2), api.ErrRange},
		{"one more", wide(api.MaxNodes - 1), inserted("x", 0, 0), api.ErrMany},
		{"one deeper", chain(api.MaxDeep), inserted("x", 0, 1), api.ErrDeep},
	}
}

// TestWithFaults: deeds that can't be done, of each code, with the first tree,
// one in the middle, and the last one; and with trees that are not there.
func TestWithFaults(t *testing.T) {
	for _, c := range each() {
		s := shelved(t, c.x, n("q", n("b")), c.x, n("a"), c.x)
		for _, number := range []int{0, 2, 4} {
			if x, code := s.book.With(number, c.d); code != c.code || !tree.Same(x, api.Tree{}) {
				t.Errorf("%s: With(%d, %v): %v, %d, want %d", c.what, number, c.d, x, code, c.code)
			}
			s.with(t, number, c.d)
		}
		for _, number := range beyond(5) {
			if x, code := s.book.With(number, c.d); code != api.ErrNone || !tree.Same(x, api.Tree{}) {
				t.Errorf("%s: With(%d, %v): %v, %d, want %d", c.what, number, c.d, x, code, api.ErrNone)
			}
		}
		s.holds(t, c.what)
	}
}

// TestWith: all deeds that can be done to the trees of a book; all trees stay.
func TestWith(t *testing.T) {
	s := shelved(t, readAll(t, "a(b c)", "a(b(d) c)", "a(d x)", "a(d x)", "q(d(e f) x(y))", "a")...)
	was := told(s.book)
	for number, x := range s.trees {
		for _, d := range deeds(x, "x", "a") {
			if code := s.with(t, number, d); code != 0 {
				t.Errorf("With(%d, %v): %d", number, d, code)
			}
		}
		if now := told(s.book); now != was {
			t.Errorf("With(%d) changes the book: %s, want %s", number, now, was)
		}
	}
	s.holds(t, "With")
	if x, code := s.book.With(0, deleted(1)); code != 0 || !tree.Same(x, n("a", n("b"))) {
		t.Errorf("With(0, %v): %v, %d", deleted(1), x, code)
	}
}

// TestMerge: merges that are told by hand: of trees that are the same, where one
// was left alone, where both changed something, where it clashes, with the path,
// and where what comes is no tree; all trees stay.
func TestMerge(t *testing.T) {
	leaves := func(label string) string { return strings.Repeat(" "+label, api.MaxNodes/2) }
	for _, c := range []struct {
		o, x, y, want string
		path          []int
		code          int
	}{
		{"a(b c)", "a(x b c)", "a(b c y)", "a(x b c y)", nil, 0},
		{"a(b c)", "a(b c)", "a(b c y)", "a(b c y)", nil, 0},
		{"a(b c)", "q(b)", "q(b)", "q(b)", nil, 0},
		{"a(b(p) c)", "a(x b(p) c)", "q(b(p) c(y))", "q(x b(p) c(y))", nil, 0},
		{"a(b(p))", "a(x(p))", "a(y(p))", "", []int{0}, api.ErrClash},
		{"a", "b", "c", "", nil, api.ErrClash},
		{"a(b c(d e(f)))", "a(b c(d e(g)))", "a(b c(d e(h)))", "", []int{1, 1, 0}, api.ErrClash},
		{"a(b c(d))", "a(b c(d x))", "a(b c(d y))", "", []int{1}, api.ErrClash},
		{"a(b)", "a(b" + leaves("x") + ")", "a(" + leaves("y") + " b)", "", nil, api.ErrMany},
	} {
		s := shelved(t, readAll(t, "z", c.y, c.o, "z(y)", c.x, "x")...)
		was := told(s.book)
		want := api.Tree{}
		if c.code == 0 {
			want = read(t, c.want)
		}
		for _, two := range [][2]int{{4, 1}, {1, 4}} {
			m, path, code := s.book.Merge(2, two[0], two[1])
			if code != c.code || !slices.Equal(path, c.path) || !tree.Same(m, want) {
				t.Errorf("Merge(%s, %s, %s): %v, %v, %d, want %v, %v, %d", c.o, c.x, c.y, m, path, code, want, c.path, c.code)
			}
		}
		s.mergeAll(t)
		s.holds(t, "Merge")
		if now := told(s.book); now != was {
			t.Errorf("Merge changes the book: %s, want %s", now, was)
		}
	}
}

// TestTwo: two books know nothing of each other.
func TestTwo(t *testing.T) {
	r := rand.New(rand.NewSource(14))
	one, two, empty := newShelf(), newShelf(), newShelf()
	from, other := chosenBook(t, r, api.MaxTrees, 10), chosenBook(t, r, api.MaxTrees, 10)
	for number, x := range from.trees {
		one.add(t, x)
		if number%3 == 0 {
			two.add(t, other.trees[number])
			two.add(t, x)
		}
		refuses(t, two, api.Tree{}, api.ErrName)
		one.holds(t, "the first of two books")
		two.holds(t, "the second of two books")
		empty.holds(t, "a book without trees beside two others")
	}
	refuses(t, one, n("a"), api.ErrFull)
	two.add(t, n("a"))
	empty.add(t, n("a"))
	empty.holds(t, "a book of one tree beside two others")
}

// TestAlike: what is answered hangs on the arguments and on the trees that were
// added alone: not on what else was asked, how often, or in which order.
func TestAlike(t *testing.T) {
	r := rand.New(rand.NewSource(15))
	one := chosenBook(t, r, 12, 12)
	two := newShelf()
	for number, x := range one.trees {
		two.add(t, x)
		for asked := range 3 {
			two.book.Blame(number - asked)
			two.book.Merge(0, number-asked, number)
			two.book.With(asked, named("x"))
			two.book.Get(number - asked)
			two.book.Step(asked)
			two.book.Add(api.Tree{})
		}
	}
	for range 2 {
		for number := 11; number >= 0; number-- {
			x, there := one.book.Get(number)
			y, alike := two.book.Get(number)
			l, ok := one.book.Step(number)
			m, same := two.book.Step(number)
			since, code := one.book.Blame(number)
			again, wanted := two.book.Blame(number)
			if there != alike || ok != same || code != wanted || !reflect.DeepEqual([]any{x, l, since}, []any{y, m, again}) {
				t.Errorf("of tree %d one book answers %v, %v, %v, another one %v, %v, %v", number, x, l, since, y, m, again)
			}
		}
	}
	if told(one.book) != told(two.book) {
		t.Errorf("two books of the same trees tell %s, %s", told(one.book), told(two.book))
	}
}

// TestEmptyLists: a list without elements is the same, nil or empty.
func TestEmptyLists(t *testing.T) {
	none, empty := n("a", n("b"), n("c")), n("a", n("b", []api.Tree{}...), n("c", []api.Tree{}...))
	s := shelved(t, none, empty, none, n("a", n("b", []api.Tree{}...)), n("a", n("b")))
	s.holds(t, "a book of lists without elements")
	if many := s.book.Deeds(); many != 1 {
		t.Errorf("lists without elements make %d deeds, want 1", many)
	}
	for number := range s.trees {
		x, code := s.book.With(number, named("x"))
		y, same := s.book.With(number, named("x", []int{}...))
		if code != 0 || same != 0 || !tree.Same(x, y) {
			t.Errorf("With(%d): %v, %d and %v, %d", number, x, code, y, same)
		}
	}
	s.mergeAll(t)
}

// TestEnds: calls end, whatever comes: trees without end, and paths that are
// longer than any tree is deep.
func TestEnds(t *testing.T) {
	ended := make(chan struct{})
	go func() {
		defer close(ended)
		s := newShelf()
		for _, round := range []int{1, 2, 7} {
			refuses(t, s, endless(round), api.ErrMany)
			s.add(t, chain(api.MaxDeep))
		}
		long := make([]int, 1<<20)
		for _, d := range []api.Deed{named("x", long...), deleted(long...), inserted("x", 0, 0, long...)} {
			if x, code := s.book.With(1, d); code != api.ErrNone || !tree.Same(x, api.Tree{}) {
				t.Errorf("With(1) and a path past the tree: %v, %d", x, code)
			}
		}
		s.holds(t, "a book that refused trees without end")
	}()
	select {
	case <-ended:
	case <-time.After(time.Minute):
		t.Fatal("a call does not end")
	}
}

// TestNoBook: of what New did not answer nothing is promised, but that no call
// panics.
func TestNoBook(t *testing.T) {
	var zero book.Book
	for _, b := range []*book.Book{nil, &zero} {
		for _, number := range append(beyond(0), 0) {
			b.Get(number)
			b.Step(number)
			b.Blame(number)
			b.With(number, named("x"))
			b.Merge(number, 0, number)
		}
		for _, x := range []api.Tree{{}, n("a"), n("b", n("c"))} {
			b.Add(x)
		}
		told(b)
	}
}
