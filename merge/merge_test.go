package merge_test

import (
	"math/rand"
	"reflect"
	"slices"
	"strings"
	"testing"
	"time"

	"pleaching/api"
	"pleaching/deed"
	"pleaching/merge"
	"pleaching/text"
	"pleaching/tree"
)

// n: a node with that label and those kids.
func n(label string, kids ...api.Tree) api.Tree {
	return api.Tree{Label: label, Kids: kids}
}

// read: the tree of a text.
func read(t *testing.T, s string) api.Tree {
	t.Helper()
	x, fault := text.Parse(s)
	if fault.Code != 0 {
		t.Fatalf("Parse(%q): %v", s, fault)
	}
	return x
}

// list: the trees of a text, with blanks between.
func list(t *testing.T, s string) []api.Tree {
	t.Helper()
	if s == "" {
		return nil
	}
	return read(t, "r("+s+")").Kids
}

// wide: a root and so many kids.
func wide(kids int) api.Tree {
	return n("a", slices.Repeat([]api.Tree{n("b")}, kids)...)
}

// chain: a node beneath so many others.
func chain(above int) api.Tree {
	t := n("z")
	for range above {
		t = n("a", t)
	}
	return t
}

// under: these trees beneath so many nodes, each beneath the one ahead.
func under(above int, kids ...api.Tree) api.Tree {
	t := n("c", kids...)
	for range above - 1 {
		t = n("c", t)
	}
	return t
}

// grown: a tree of so many nodes with labels of the first so many letters,
// each put in at a place that r chooses.
func grown(r *rand.Rand, nodes, letters int) api.Tree {
	label := func() string { return string(rune('a' + r.Intn(letters))) }
	x := n(label())
	for tree.Size(x) < nodes {
		at := &x
		for above := 0; above < api.MaxDeep-1 && len(at.Kids) > 0 && r.Intn(3) > 0; above++ {
			at = &at.Kids[r.Intn(len(at.Kids))]
		}
		at.Kids = slices.Insert(at.Kids, r.Intn(len(at.Kids)+1), n(label()))
	}
	return x
}

// lists: all of up to so many trees, of these.
func lists(long int, of ...api.Tree) [][]api.Tree {
	all := [][]api.Tree{nil}
	for i := 0; i < len(all); i++ {
		if len(all[i]) == long {
			continue
		}
		for _, x := range of {
			all = append(all, append(slices.Clone(all[i]), x))
		}
	}
	return all
}

// forests: all lists of trees with so many nodes in all, with these labels.
func forests(nodes int, labels ...string) [][]api.Tree {
	if nodes == 0 {
		return [][]api.Tree{nil}
	}
	var all [][]api.Tree
	for first := 1; first <= nodes; first++ {
		for _, kids := range forests(first-1, labels...) {
			for _, rest := range forests(nodes-first, labels...) {
				for _, label := range labels {
					all = append(all, append([]api.Tree{n(label, kids...)}, rest...))
				}
			}
		}
	}
	return all
}

// small: all trees of up to so many nodes, with these labels, and the root with
// one of the roots.
func small(nodes int, roots []string, labels ...string) []api.Tree {
	var all []api.Tree
	for beneath := range nodes {
		for _, kids := range forests(beneath, labels...) {
			for _, root := range roots {
				all = append(all, n(root, kids...))
			}
		}
	}
	return all
}

// TestCommon: lists without trees, with nothing in common, all of it, some of
// it in another order, and trees that stand there several times.
func TestCommon(t *testing.T) {
	for _, c := range []struct {
		a, b string
		want []api.Pair
	}{
		{"", "", nil},
		{"a b", "", nil},
		{"", "a b", nil},
		{"a b", "c d", nil},
		{"a", "a(a)", nil},
		{"a(b)", "a(c)", nil},
		{"a(b c)", "a(c b)", nil},
		{"a(b(c))", "a(b c)", nil},

		{"a", "a", []api.Pair{{A: 0, B: 0}}},
		{"a b c", "a b c", []api.Pair{{A: 0, B: 0}, {A: 1, B: 1}, {A: 2, B: 2}}},
		{"a(b c(d)) a(b)", "a(b c(d)) a(b)", []api.Pair{{A: 0, B: 0}, {A: 1, B: 1}}},
		{"a b c", "x a y b z c", []api.Pair{{A: 0, B: 1}, {A: 1, B: 3}, {A: 2, B: 5}}},
		{"x a y b z c", "a b c", []api.Pair{{A: 1, B: 0}, {A: 3, B: 1}, {A: 5, B: 2}}},
		{"a b c d", "x b d c", []api.Pair{{A: 1, B: 1}, {A: 3, B: 2}}},
		{"a b c", "b c d", []api.Pair{{A: 1, B: 0}, {A: 2, B: 1}}},
		{"b c d", "a b c", []api.Pair{{A: 0, B: 1}, {A: 1, B: 2}}},

		// As many behind the one as behind the other: the first list's is gone
		// over.
		{"a b", "b a", []api.Pair{{A: 1, B: 0}}},
		{"b a", "a b", []api.Pair{{A: 1, B: 0}}},
		{"a b c", "c b a", []api.Pair{{A: 2, B: 0}}},
		{"a b x", "b a x", []api.Pair{{A: 1, B: 0}, {A: 2, B: 2}}},
		{"a b c d", "b a d c", []api.Pair{{A: 1, B: 0}, {A: 3, B: 2}}},

		// More behind one of both.
		{"a b c", "c a b", []api.Pair{{A: 0, B: 1}, {A: 1, B: 2}}},
		{"c a b", "a b c", []api.Pair{{A: 1, B: 0}, {A: 2, B: 1}}},
		{"a(b) a a(c)", "a(c) a(b) a", []api.Pair{{A: 0, B: 1}, {A: 1, B: 2}}},

		// Two that are the same are a pair, though a later one would do, too.
		{"a a", "a", []api.Pair{{A: 0, B: 0}}},
		{"a", "a a", []api.Pair{{A: 0, B: 0}}},
		{"a a a", "a a", []api.Pair{{A: 0, B: 0}, {A: 1, B: 1}}},
		{"x a x a", "a x", []api.Pair{{A: 1, B: 0}, {A: 2, B: 1}}},
		{"a x", "x a x a", []api.Pair{{A: 0, B: 1}, {A: 1, B: 2}}},
		{"b a(c) b a(c)", "a(c) a(c) b", []api.Pair{{A: 1, B: 0}, {A: 3, B: 1}}},
	} {
		a, b := list(t, c.a), list(t, c.b)
		if l := merge.Common(a, b); !slices.Equal(l, c.want) {
			t.Errorf("Common(%q, %q): %v, want %v", c.a, c.b, l, c.want)
		}
		shares(t, a, b)
		shares(t, b, a)
	}
}

// TestCommonShort: of all short lists a search finds no more pairs.
func TestCommonShort(t *testing.T) {
	for _, all := range [][][]api.Tree{
		lists(4, n("a"), n("b"), n("a", n("b"))),
		lists(6, n("a", n("a")), n("a")),
		lists(3, n("a"), n("b"), n("c"), n("d")),
	} {
		for _, a := range all {
			for _, b := range all {
				if l, want := shares(t, a, b), search(a, b); len(l) != want {
					t.Errorf("Common(%v, %v): %v, and %d pairs can be", a, b, l, want)
				}
			}
		}
	}
}

// TestCommonAny: lists that r chooses, of few trees and of many.
func TestCommonAny(t *testing.T) {
	r := rand.New(rand.NewSource(1))
	for range 300 {
		letters := 1 + r.Intn(3)
		var all []api.Tree
		for range 1 + r.Intn(8) {
			all = append(all, grown(r, 1+r.Intn(3), letters))
		}
		chosen := func() []api.Tree {
			var l []api.Tree
			for range r.Intn(30) {
				l = append(l, all[r.Intn(len(all))])
			}
			return l
		}
		shares(t, chosen(), chosen())
	}
}

// TestCommonLong: lists of more trees than a tree can have.
func TestCommonLong(t *testing.T) {
	long := slices.Repeat([]api.Tree{n("a"), n("b")}, 1<<17)
	one := []api.Tree{n("b")}
	if l := merge.Common(long, one); !slices.Equal(l, []api.Pair{{A: 1, B: 0}}) {
		t.Errorf("Common of a long list and a short one: %v", l)
	}
	if l := merge.Common(one, long); !slices.Equal(l, []api.Pair{{A: 0, B: 1}}) {
		t.Errorf("Common of a short list and a long one: %v", l)
	}
	shares(t, slices.Repeat(list(t, "a b(c) c"), 150), slices.Repeat(list(t, "b(c) a d e(f)"), 100))

	var all, some []api.Tree
	var want []api.Pair
	for i := range 2000 {
		letter := func(i int) string { return string(rune('a' + i%26)) }
		x := n(letter(i/676), n(letter(i/26)), n(letter(i)))
		all = append(all, x)
		if i%3 > 0 {
			want = append(want, api.Pair{A: i, B: len(some)})
			some = append(some, x)
		}
	}
	if l := merge.Common(all, some); !slices.Equal(l, want) {
		t.Errorf("Common of a long list and some of it: %d pairs, want %d", len(l), len(want))
	}
}

// TestCommonOdd: what is no tree is the same as one like it alone.
func TestCommonOdd(t *testing.T) {
	odd := []api.Tree{{}, n("A"), n("a", n("")), wide(api.MaxNodes + 1), chain(api.MaxDeep + 5), n("a", n("b c")), n("a", n("b"), n("c")), n(strings.Repeat("a", 99))}
	turned := slices.Clone(odd)
	slices.Reverse(turned)
	for _, a := range [][]api.Tree{nil, odd, turned, odd[2:6]} {
		for _, b := range [][]api.Tree{nil, odd, turned, odd[1:5]} {
			shares(t, a, b)
		}
	}
}

// TestMerge: where neither, one, the other one, and both changed the label,
// kids, and nodes deeper down.
func TestMerge(t *testing.T) {
	for _, c := range []struct{ o, a, b, want string }{
		{"a", "a", "a", "a"},
		{"a(b(c) d)", "a(b(c) d)", "a(b(c) d)", "a(b(c) d)"},
		{"a", "b", "a", "b"},
		{"a", "a", "b", "b"},
		{"a", "b", "b", "b"},
		{"a", "a", "x(y z)", "x(y z)"},
		{"a(b c)", "x", "a(b c)", "x"},
		{"a(b)", "a(c d)", "a(c d)", "a(c d)"},
		{"a(b)", "x(c d)", "x(c d)", "x(c d)"},

		// The label by one, kids by the other one, or by both alike.
		{"a(b)", "x(b)", "a(b c)", "x(b c)"},
		{"a(b)", "a", "x(b)", "x"},
		{"a", "x", "a(b)", "x(b)"},
		{"a(b)", "x(c)", "a(c)", "x(c)"},
		{"a(b)", "x(b c)", "x(d b)", "x(d b c)"},
		{"a(b c)", "x(b)", "x(c)", ""},

		// Held ones at the front, at the back, in the middle.
		{"a(b c)", "a(x b c)", "a(b c y)", "a(x b c y)"},
		{"a(b)", "a(x y b)", "a(b p q)", "a(x y b p q)"},
		{"a(b)", "a(x b y)", "a(x b y z)", ""},
		{"a(b)", "a(x b y)", "a(x b)", "a(x b y)"},
		{"a(b)", "a(x b y)", "a(x b y)", "a(x b y)"},
		{"a(b c d)", "a(b d)", "a(b c d e)", "a(b d e)"},
		{"a(b c d)", "a(c d)", "a(b c)", "a(c)"},
		{"a(b c d e f)", "a(b c x e f)", "a(y c d e)", "a(y c x e)"},
		{"a(b c d e f)", "a(p b q c d e f)", "a(b c r d e s f t)", "a(p b q c r d e s f t)"},
		{"a(b c d)", "a(x c d)", "a(b c y)", "a(x c y)"},
		{"a(b c d)", "a(x c)", "a(b c y)", ""},
		{"a(b b b)", "a(x b b b)", "a(b b b y)", "a(x b b b y)"},
		{"a(b b)", "a(b b b)", "a(b b x)", ""},

		// None held: as many of all three, or one left them alone.
		{"a(b c)", "a(x c)", "a(b y)", "a(x y)"},
		{"a(b c)", "a(x y)", "a(b c)", "a(x y)"},
		{"a(b(p) c(q))", "a(x(p) c)", "a(b(r) c(q))", "a(x(r) c)"},
		{"a(b c)", "x(c b)", "a(b c)", "x(c b)"},
		{"a(b)", "x", "a", "x"},
		{"a", "x(p)", "a(p)", "x(p)"},

		// Between two held ones as many of all three.
		{"a(h b c i)", "a(h x c i)", "a(h b y i)", "a(h x y i)"},
		{"a(h b(p) c i)", "a(h b(q) c i)", "a(h x(p) c i)", "a(h x(q) c i)"},
		{"a(h b(p) i c(q) j)", "a(h b(x p) i c(q x) j)", "a(h b(p y) i c(y q) j)", "a(h b(x p y) i c(y q x) j)"},

		// Deeper down.
		{"a(b(p q))", "a(b(x p q))", "a(b(p q y))", "a(b(x p q y))"},
		{"a(b(p) c(q))", "a(b(p r) c(q))", "z(b(p) c)", "z(b(p r) c)"},
		{"a(b(c(d(e))))", "a(b(c(d(e x))))", "z(b(y(d(e))))", "z(b(y(d(e x))))"},
		{"a(b(c(d(e) f) g) h)", "a(b(c(d(x e) f) g) h)", "a(b(c(d(e y) f) g) h z)", "a(b(c(d(x e y) f) g) h z)"},
		{"a(b(c) d)", "a(b(c x) d y)", "a(z b(c) d)", ""},
	} {
		o, a, b := read(t, c.o), read(t, c.a), read(t, c.b)
		if c.want != "" {
			answered(t, o, a, b, read(t, c.want), nil, 0)
		}
		if _, code := merges(t, o, a, b); (code == 0) != (c.want != "") {
			t.Errorf("Merge(%s, %s, %s): code %d", c.o, c.a, c.b, code)
		}
		leftAlone(t, o, a)
		leftAlone(t, o, b)
	}
}

// TestMergeClash: clashes of the label, of kids, and of both, at the root, in a
// middle kid, and deep down; of several the first from the left.
func TestMergeClash(t *testing.T) {
	for _, c := range []struct {
		o, a, b string
		path    []int
	}{
		{"a", "x", "y", nil},
		{"a", "x(p)", "y(p)", nil},
		{"a(b)", "x(b)", "y(b)", nil},
		{"a(b(p))", "a(x(p))", "a(y(p))", []int{0}},
		{"a(b c d)", "a(b x d)", "a(b y d)", []int{1}},
		{"a(b c d)", "a(b c x)", "a(b c y)", []int{2}},
		{"a(b(c(d)))", "a(b(c(x)))", "a(b(c(y)))", []int{0, 0, 0}},

		{"a", "a(x)", "a(y)", nil},
		{"a(b)", "a", "a(x)", nil},
		{"a(b c)", "a(b x c)", "a(b y z c)", nil},
		{"a(b c)", "a(b x c)", "a(b y c)", nil},
		{"a(b c)", "a(x b c)", "a(y b c)", nil},
		{"a(b c)", "a(b c x)", "a(b c y)", nil},
		{"a(b c)", "a(c)", "a(x c)", nil},
		{"a(b c)", "a(c b)", "a(x b)", []int{0}},
		{"a(b c d)", "a(b c(p) d)", "a(b c(q) d)", []int{1}},
		{"a(b c(d))", "a(b c(d e))", "a(b c(d f))", []int{1}},
		{"a(b c d(e(f) g) h)", "a(b c d(e(f x) g) h)", "a(b c d(e(f y) g) h)", []int{2, 0}},

		// The label first, though further down there is one, too.
		{"a(b)", "x(b p)", "y(b q)", nil},
		{"a(b)", "x(b(p))", "y(b(q))", nil},
		{"a(b)", "a(b(p))", "a(b(q))", []int{0}},
		{"r(a(b))", "r(x(b(p)))", "r(y(b(q)))", []int{0}},
		{"r(s a(b))", "r(s x(b(p) c))", "r(s y(b(q)))", []int{1}},

		// The first from the left: beneath a kid, of the node itself, beneath
		// the next.
		{"a(b c d)", "a(b(x) c d(x))", "a(b(y) c d(y))", []int{0}},
		{"a(b c d)", "a(b(x) c d(x))", "a(b c d(y))", []int{2}},
		{"a(b(p) c d)", "a(b(x) c d)", "a(b(y) c e f)", []int{0, 0}},
		{"a(b(p) c d)", "a(b(x) c d e)", "a(b(y) c d f)", []int{0, 0}},
		{"a(b(p) c d(q))", "a(b(x) c e d(x))", "a(b(p) c f d(y))", nil},
		{"a(b c d e)", "a(v w x y)", "a(b m c n)", []int{1}},
		{"a(b(c d) e(f))", "a(b(x(p) y) z)", "a(b(x(q) w) v)", []int{0, 0}},
		{"a(b(c d) e(f))", "a(b(x y) z)", "a(b(x w) v)", []int{0, 1}},

		// The path is o's, where the node stands elsewhere in a and b.
		{"a(h c(d))", "a(x h c(d e))", "a(h c(d f))", []int{1}},
		{"a(h c(d))", "a(h c(d e))", "a(x y h c(d f))", []int{1}},
		{"a(p q h c)", "a(h c(x))", "a(p q h c(y))", []int{3}},
		{"a(p h q c(d i e))", "a(h q(x) c(u d i f))", "a(p h q c(d i g))", []int{3, 2}},
	} {
		o, a, b := read(t, c.o), read(t, c.a), read(t, c.b)
		answered(t, o, a, b, api.Tree{}, c.path, api.ErrClash)
		merges(t, o, a, b)
		leftAlone(t, o, a)
		leftAlone(t, o, b)
	}
}

// TestMergeSmall: all small trees are as the second reckoning has it.
func TestMergeSmall(t *testing.T) {
	var flat []api.Tree
	for _, kids := range lists(3, n("a"), n("b"), n("c")) {
		flat = append(flat, n("a", kids...))
	}
	for _, all := range [][]api.Tree{
		small(4, []string{"a"}, "a", "b"),
		small(3, []string{"a", "b", "c"}, "a", "b"),
		flat,
	} {
		for _, o := range all {
			for i, a := range all {
				leftAlone(t, o, a)
				for _, b := range all[:i] {
					merges(t, o, a, b)
				}
			}
		}
	}
}

// changed: a tree to which so many deeds that r chooses are done.
func changed(r *rand.Rand, x api.Tree, many int) api.Tree {
	for range many {
		d := api.Deed{Kind: api.DName, Label: string(rune('a' + r.Intn(5)))}
		at := x
		for len(at.Kids) > 0 && r.Intn(3) > 0 {
			kid := r.Intn(len(at.Kids))
			d.Path, at = append(d.Path, kid), at.Kids[kid]
		}
		switch r.Intn(3) {
		case 0:
			d.Kind, d.At = api.DInsert, r.Intn(len(at.Kids)+1)
			d.Many = r.Intn(len(at.Kids) - d.At + 1)
		case 1:
			d.Kind, d.Label = api.DDelete, ""
		}
		if y, _, code := deed.Do(x, d); code == 0 {
			x = y
		}
	}
	return x
}

// changedAt: a tree in which that is done to what the node at a path heads.
func changedAt(r *rand.Rand, x api.Tree, path []int, many int) api.Tree {
	if len(path) == 0 {
		return changed(r, x, many)
	}
	kids := slices.Clone(x.Kids)
	kids[path[0]] = changedAt(r, kids[path[0]], path[1:], many)
	return n(x.Label, kids...)
}

// TestMergeAny: trees that r chooses, up to as great as may be, and what comes
// of them by some deeds, all over, or beneath one node.
func TestMergeAny(t *testing.T) {
	r := rand.New(rand.NewSource(2))
	codes, deep := map[int]int{}, map[int]int{}
	for i := range 6000 {
		nodes := 1 + r.Intn(api.MaxNodes)
		if i%5 == 0 {
			nodes = api.MaxNodes - 2
		}
		o := grown(r, nodes, 1+r.Intn(12))
		a, b := changed(r, o, r.Intn(4)), changed(r, o, r.Intn(4))
		switch all := paths(o); i % 8 {
		case 0:
			a, b = changed(r, o, 12), grown(r, 1+r.Intn(api.MaxNodes), 2)
		case 1, 2, 3:
			at := all[r.Intn(len(all))]
			a, b = changedAt(r, o, at, 1+r.Intn(3)), changedAt(r, o, at, 1+r.Intn(3))
		}
		if tree.Check(a) != 0 || tree.Check(b) != 0 {
			continue
		}
		path, code := merges(t, o, a, b)
		codes[code]++
		if code == api.ErrClash {
			deep[len(path)]++
		}
		leftAlone(t, o, a)
	}
	for _, code := range []int{0, api.ErrClash, api.ErrMany} {
		if codes[code] < 5 {
			t.Errorf("%d tests had the code %d: too few", codes[code], code)
		}
	}
	for path := range 4 {
		if deep[path] < 20 {
			t.Errorf("%d tests clashed at a path of %d: too few", deep[path], path)
		}
	}
}

// paths: those of all nodes of a tree.
func paths(t api.Tree) [][]int {
	all := [][]int{nil}
	for i, kid := range t.Kids {
		for _, path := range paths(kid) {
			all = append(all, append([]int{i}, path...))
		}
	}
	return all
}

// begins: does a path lead by way of the node at another one, or to it?
func begins(path, with []int) bool {
	return len(with) <= len(path) && slices.Equal(path[:len(with)], with)
}

// done: a tree to which a deed is done.
func done(t *testing.T, x api.Tree, d api.Deed) api.Tree {
	t.Helper()
	y, _, code := deed.Do(x, d)
	if code != 0 {
		t.Fatalf("Do(%v, %v): %d", x, d, code)
	}
	return y
}

// TestMergeApart: what one did to a node and the other one to another one, of
// labels that are not the same, are both done in what comes; other labels of
// one node clash there.
func TestMergeApart(t *testing.T) {
	named := func(label string, path []int) api.Deed {
		return api.Deed{Kind: api.DName, Path: path, Label: label}
	}
	inserted := func(label string, path []int) api.Deed {
		return api.Deed{Kind: api.DInsert, Path: path, Label: label}
	}
	for _, s := range []string{"a", "a(b)", "a(b c d)", "a(b(c d) e(f(g h i) j) k)", "a(b(c(d(e(f(g(h(i(j(k))))))))))"} {
		o := read(t, s)
		for _, p := range paths(o) {
			for _, q := range paths(o) {
				a, b := done(t, o, named("x", p)), done(t, o, named("y", q))
				if slices.Equal(p, q) {
					answered(t, o, a, b, api.Tree{}, p, api.ErrClash)
					answered(t, o, a, done(t, o, named("x", q)), a, nil, 0)
					continue
				}
				answered(t, o, a, b, done(t, a, named("y", q)), nil, 0)
				if begins(p, q) || begins(q, p) {
					continue
				}
				a, b = done(t, o, inserted("x", p)), done(t, o, inserted("y", q))
				answered(t, o, a, b, done(t, a, inserted("y", q)), nil, 0)
			}
		}
	}
}

// TestMergeGreat: what comes of it is as great and as deep as may be, and one
// node more.
func TestMergeGreat(t *testing.T) {
	xs := func(many int) []api.Tree { return slices.Repeat([]api.Tree{n("x")}, many) }
	ys := func(many int) []api.Tree { return slices.Repeat([]api.Tree{n("y")}, many) }
	held := n("h", n("i"))
	for above := 1; above <= api.MaxDeep-1; above++ {
		most := api.MaxNodes - above - 2
		for _, left := range []int{1, most / 2, most - 1} {
			o := under(above, held)
			a := under(above, append(xs(left), held)...)
			full := under(above, append([]api.Tree{held}, ys(most-left)...)...)
			more := under(above, append([]api.Tree{held}, ys(most-left+1)...)...)
			want := under(above, slices.Concat(xs(left), []api.Tree{held}, ys(most-left))...)
			if tree.Size(want) != api.MaxNodes {
				t.Fatalf("%v has %d nodes", want, tree.Size(want))
			}
			answered(t, o, a, full, want, nil, 0)
			answered(t, o, full, a, want, nil, 0)
			answered(t, o, a, more, api.Tree{}, nil, api.ErrMany)
			answered(t, o, more, a, api.Tree{}, nil, api.ErrMany)
			leftAlone(t, o, full)
			leftAlone(t, want, full)
			merges(t, want, a, full)
		}
	}
	for _, x := range []api.Tree{wide(api.MaxNodes - 1), chain(api.MaxDeep)} {
		leftAlone(t, x, x)
		leftAlone(t, n("a"), x)
		leftAlone(t, x, n("a"))
	}
}

// TestMergeClashOfMany: a clash is told ahead of what comes being too great.
func TestMergeClashOfMany(t *testing.T) {
	xs := slices.Repeat([]api.Tree{n("x")}, 30)
	ys := slices.Repeat([]api.Tree{n("y")}, 30)
	o := n("a", n("h"), n("c"), n("i"))
	a := n("a", append(xs, n("h"), n("c"), n("i"))...)
	b := n("a", append([]api.Tree{n("h"), n("c"), n("i")}, ys...)...)
	answered(t, o, a, b, api.Tree{}, nil, api.ErrMany)
	a.Kids[31].Label, b.Kids[1].Label = "p", "q"
	answered(t, o, a, b, api.Tree{}, []int{1}, api.ErrClash)
	answered(t, o, b, a, api.Tree{}, []int{1}, api.ErrClash)
}

// TestMergeFaults: each of the three is no tree, alone, and with others.
func TestMergeFaults(t *testing.T) {
	good := []api.Tree{n("a", n("b")), n("a", n("c")), n("x", n("b"))}
	none := []api.Tree{{}, n("a", n("b", n("C"))), wide(api.MaxNodes), chain(api.MaxDeep + 1), n("a", n(""))}
	for i := range 3 {
		for _, bad := range none {
			want := tree.Check(bad)
			if want == 0 {
				t.Fatalf("%v is a tree", bad)
			}
			l := slices.Clone(good)
			l[i] = bad
			answered(t, l[0], l[1], l[2], api.Tree{}, nil, want)
			same := slices.Repeat(good[:1], 3)
			same[i] = bad
			answered(t, same[0], same[1], same[2], api.Tree{}, nil, want)
			for j := i + 1; j < 3; j++ {
				for _, worse := range none {
					l[j] = worse
					answered(t, l[0], l[1], l[2], api.Tree{}, nil, want)
					l[j] = good[j]
				}
			}
			answered(t, bad, bad, bad, api.Tree{}, nil, want)
		}
	}
	for _, o := range none {
		for _, a := range none {
			for _, b := range none {
				answered(t, o, a, b, api.Tree{}, nil, tree.Check(o))
			}
		}
	}
	// What would clash is no clash, where one is no tree.
	answered(t, n("a"), n("x"), n("Y"), api.Tree{}, nil, api.ErrName)
}

// endless: a tree whose kids lead back to themselves, by so many lists.
func endless(round int) api.Tree {
	lists := make([][]api.Tree, round)
	for i := range lists {
		lists[i] = []api.Tree{n("b"), n("c")}
	}
	for i := range lists {
		lists[i][1].Kids = lists[(i+1)%round]
	}
	return n("a", lists[0]...)
}

// TestEndless: kids that lead back to themselves have no end, but calls do.
func TestEndless(t *testing.T) {
	ended := make(chan struct{})
	go func() {
		defer close(ended)
		good := n("a", n("b"))
		for _, round := range []int{1, 2, 7} {
			x := endless(round)
			for _, l := range [][3]api.Tree{{x, good, good}, {good, x, good}, {good, good, x}, {x, x, x}} {
				y, path, code := merge.Merge(l[0], l[1], l[2])
				if code != api.ErrMany || len(path) != 0 || y.Label != "" || len(y.Kids) != 0 {
					t.Errorf("Merge of a tree without end: %v, %v, %d", y, path, code)
				}
			}
			l := merge.Common([]api.Tree{x, good, endless(3)}, []api.Tree{good, x})
			if !slices.Equal(l, []api.Pair{{A: 1, B: 0}, {A: 2, B: 1}}) {
				t.Errorf("Common of trees without end: %v", l)
			}
		}
	}()
	select {
	case <-ended:
	case <-time.After(time.Minute):
		t.Fatal("a call with a tree without end does not end")
	}
}

// TestEmptyLists: a list without elements is the same, nil or empty.
func TestEmptyLists(t *testing.T) {
	var none []api.Tree
	empty := []api.Tree{}
	for _, a := range [][]api.Tree{none, empty, {n("a")}, {n("a", empty...)}} {
		for _, b := range [][]api.Tree{none, empty, {n("a")}, {n("a", empty...)}} {
			if l := merge.Common(a, b); len(l) != min(len(a), len(b)) {
				t.Errorf("Common(%#v, %#v): %v", a, b, l)
			}
		}
	}
	bare := func(kids []api.Tree) []api.Tree {
		leaf := func(s string) api.Tree { return n(s, kids...) }
		return []api.Tree{leaf("a"), n("a", leaf("b")), n("a", leaf("b"), leaf("c")), n("x", leaf("c"))}
	}
	for i, o := range bare(none) {
		for j, a := range bare(none) {
			for k, b := range bare(none) {
				want, path, code := merge.Merge(o, a, b)
				answered(t, bare(empty)[i], a, b, want, path, code)
				answered(t, o, bare(empty)[j], bare(empty)[k], want, path, code)
			}
		}
	}
}

// TestAlike: what is answered hangs on the arguments alone.
func TestAlike(t *testing.T) {
	o, a := read(t, "a(b(p) c d(q r))"), read(t, "a(x b(p p) c d(q))")
	for _, s := range []string{"z(b(p) d(q r) e)", "z(b(p) c(x) d(q r) e)", "a(b(y) c d(q r))", "a(b(p) c e)"} {
		b := read(t, s)
		y, path, code := merge.Merge(o, a, b)
		l := merge.Common(a.Kids, b.Kids)
		for range 3 {
			z, way, same := merge.Merge(o, a, b)
			if code != same || !slices.Equal(path, way) || !reflect.DeepEqual(y, z) || !slices.Equal(l, merge.Common(a.Kids, b.Kids)) {
				t.Errorf("Merge answers %v, %v, %d, then %v, %v, %d", y, path, code, z, way, same)
			}
		}
	}
}
