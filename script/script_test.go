package script_test

import (
	"math"
	"math/rand"
	"reflect"
	"slices"
	"strings"
	"testing"
	"time"

	"pleaching/api"
	"pleaching/deed"
	"pleaching/dist"
	"pleaching/script"
	"pleaching/text"
	"pleaching/tree"
)

const most, least = math.MaxInt, math.MinInt

// n: a node with that label and those kids.
func n(label string, kids ...api.Tree) api.Tree {
	return api.Tree{Label: label, Kids: kids}
}

func named(label string, path ...int) api.Deed {
	return api.Deed{Kind: api.DName, Path: path, Label: label}
}

func deleted(path ...int) api.Deed {
	return api.Deed{Kind: api.DDelete, Path: path}
}

func inserted(label string, at, many int, path ...int) api.Deed {
	return api.Deed{Kind: api.DInsert, Path: path, At: at, Many: many, Label: label}
}

// list of these deeds.
func list(l ...api.Deed) []api.Deed { return l }

// read: the tree of a text.
func read(t *testing.T, s string) api.Tree {
	t.Helper()
	x, fault := text.Parse(s)
	if fault.Code != 0 {
		t.Fatalf("Parse(%q): %v", s, fault)
	}
	return x
}

// wide: a root and so many kids.
func wide(kids int) api.Tree {
	t := n("a")
	for range kids {
		t.Kids = append(t.Kids, n("b"))
	}
	return t
}

// chain: a node beneath so many others.
func chain(above int) api.Tree {
	t := n("z")
	for range above {
		t = n("a", t)
	}
	return t
}

// great: trees that have as many nodes as may be, and, but for the first one,
// nodes as deep as may be.
func great(t *testing.T) []api.Tree {
	t.Helper()
	line := func(above int) string { return strings.Repeat("a(", above) + "z" + strings.Repeat(")", above) }
	low, leaves := line(api.MaxDeep), strings.Repeat(" b", api.MaxNodes-api.MaxDeep-1)
	comb := "z"
	for range api.MaxDeep {
		comb = "c(b " + comb + " a)"
	}
	under := line(api.MaxDeep - 1)
	var all []api.Tree
	for _, s := range []string{
		"a(" + strings.Repeat(" b", api.MaxNodes-1) + ")",
		low[:len(low)-1] + leaves + ")",
		"a(" + leaves + " " + under + ")",
		strings.Repeat("a(", api.MaxDeep) + "z" + leaves + strings.Repeat(")", api.MaxDeep),
		comb[:len(comb)-1] + " c c(d) c c(d) c c(d))",
		"b(" + under + " " + strings.ReplaceAll(under, "a", "b") + " " + line(api.MaxDeep-2) + " " + under + ")",
	} {
		x := read(t, s)
		if size := tree.Size(x); size != api.MaxNodes {
			t.Fatalf("%s has %d nodes", s, size)
		}
		all = append(all, x)
	}
	return all
}

// grown: a tree of so many nodes with labels of the first so many letters,
// each put in at a place that r chooses.
func grown(r *rand.Rand, nodes, letters int) api.Tree {
	label := func() string { return string(rune('a' + r.Intn(letters))) }
	x := n(label())
	for tree.Size(x) < nodes {
		at := &x
		for above := 0; above < api.MaxDeep-1 && len(at.Kids) > 0 && r.Intn(3) > 0; above++ {
			at = &at.Kids[r.Intn(len(at.Kids))]
		}
		at.Kids = slices.Insert(at.Kids, r.Intn(len(at.Kids)+1), n(label()))
	}
	return x
}

// fails: is nothing but that fault answered?
func fails(t *testing.T, what string, x api.Tree, l []api.Deed, want api.Fault) {
	t.Helper()
	y, back, fault := script.Run(x, l)
	if fault != want {
		t.Errorf("Run of %s: %v, want %v", what, fault, want)
	}
	if y.Label != "" || len(y.Kids) != 0 || len(back) != 0 {
		t.Errorf("Run of %s: with %v it answers %v, %v", what, fault, y, back)
	}
}

// undone fails the test unless what undoes deeds, done to what came of them,
// makes the tree that it was, and is undone by just these deeds.
func undone(t *testing.T, x api.Tree, l []api.Deed) {
	t.Helper()
	y, back, fault := script.Run(x, l)
	if fault != (api.Fault{}) || len(back) != len(l) {
		t.Errorf("Run(%v, %v): undone by %v, %v", x, l, back, fault)
		return
	}
	z, again, fault := script.Run(y, back)
	if fault != (api.Fault{}) || !tree.Same(z, x) || !sameDeeds(again, l) {
		t.Errorf("Run(%v, %v), undone by %v: %v, %v, %v", x, l, back, z, again, fault)
	}
}

// TestRun: no deed, one of each kind, and several that hang on each other.
func TestRun(t *testing.T) {
	const s = "a(b(c d) e)"
	for _, c := range []struct {
		l    []api.Deed
		want string
		back []api.Deed
	}{
		{nil, s, nil},
		{list(named("x", 0, 1)), "a(b(c x) e)", list(named("d", 0, 1))},
		{list(deleted(0)), "a(c d e)", list(inserted("b", 0, 2))},
		{list(inserted("x", 1, 1)), "a(b(c d) x(e))", list(deleted(1))},

		// A second time at one node, and back again.
		{list(named("x"), named("y")), "y(b(c d) e)", list(named("x"), named("a"))},
		{list(named("a"), named("a")), s, list(named("a"), named("a"))},
		{list(deleted(0), inserted("b", 0, 2)), s, list(deleted(0), inserted("b", 0, 2))},
		{list(inserted("x", 0, 0), deleted(0)), s, list(inserted("x", 0, 0), deleted(0))},

		// A path leads on in what came, not in what was.
		{list(deleted(0), deleted(0)), "a(d e)", list(inserted("c", 0, 0), inserted("b", 0, 2))},
		{list(deleted(0), deleted(0), deleted(0), deleted(0)), "a", list(inserted("e", 0, 0), inserted("d", 0, 0), inserted("c", 0, 0), inserted("b", 0, 2))},
		{list(deleted(0), named("x", 2)), "a(c d x)", list(named("e", 2), inserted("b", 0, 2))},
		{list(inserted("x", 0, 0), named("y", 1)), "a(x y(c d) e)", list(named("b", 1), deleted(0))},
		{list(inserted("x", 2, 0), inserted("y", 0, 0, 2), inserted("z", 0, 0, 2, 0)), "a(b(c d) e x(y(z)))", list(deleted(2, 0, 0), deleted(2, 0), deleted(2))},
		{
			list(inserted("x", 0, 2), named("y", 0), deleted(0, 0), inserted("z", 1, 2, 0), deleted(0)),
			"a(c z(d e))",
			list(inserted("y", 0, 2), deleted(0, 1), inserted("b", 0, 2, 0), named("x", 0), deleted(0)),
		},
	} {
		y, back, fault := script.Run(read(t, s), c.l)
		if fault != (api.Fault{}) || !tree.Same(y, read(t, c.want)) || !sameDeeds(back, c.back) {
			t.Errorf("Run(%v): %v, %v, %v", c.l, y, back, fault)
		}
		ran(t, read(t, s), c.l)
	}
	ran(t, n("a"), nil)
	ran(t, n("a"), list(inserted("b", 0, 0)))
}

// TestRunOne: a script of one deed is the deed.
func TestRunOne(t *testing.T) {
	for _, s := range []string{"a", "a(b)", "a(b(c d) e)", "a(b(c(d)) b(e f))"} {
		x := read(t, s)
		for _, d := range append(deeds(x, "x", "a"), deleted(), named("x", 9), inserted("x", 9, 0), api.Deed{}) {
			y, back, code := deed.Do(x, d)
			if code != 0 {
				fails(t, "a deed that can't be done", x, list(d), api.Fault{Code: code})
				continue
			}
			if z, undo, fault := script.Run(x, list(d)); fault != (api.Fault{}) || !tree.Same(z, y) || !sameDeeds(undo, list(back)) {
				t.Errorf("Run(%v, %v): %v, %v, %v, want %v, %v", x, d, z, undo, fault, y, back)
			}
			ran(t, x, list(d))
		}
	}
}

// turns: so many deeds that can be done to any tree with room for a node
// beneath the root, and make it what it was, if they are even.
func turns(many int) []api.Deed {
	var l []api.Deed
	for i := range many {
		if i%2 == 0 {
			l = append(l, inserted("new", 0, 0))
		} else {
			l = append(l, deleted(0))
		}
	}
	return l
}

// TestRunMany: as many deeds as may be, and more.
func TestRunMany(t *testing.T) {
	for _, s := range []string{"a", "a(b(c d) e)"} {
		x := read(t, s)
		for _, many := range []int{2, api.MaxOps - 2, api.MaxOps} {
			y, _, fault := script.Run(x, turns(many))
			if fault != (api.Fault{}) || !tree.Same(x, y) {
				t.Errorf("Run of %d deeds: %v, %v", many, y, fault)
			}
			ran(t, x, turns(many))
		}
		ran(t, x, turns(api.MaxOps-1))
		for _, many := range []int{api.MaxOps + 1, api.MaxOps + 2, 2 * api.MaxOps, 1 << 16} {
			fails(t, "too many deeds", x, turns(many), api.Fault{Code: api.ErrMany, At: -1})
		}
	}
	var grow []api.Deed
	for range api.MaxNodes - 1 {
		grow = append(grow, inserted("b", 0, 0))
	}
	y, back, fault := script.Run(n("a"), grow)
	if fault != (api.Fault{}) || !tree.Same(y, wide(api.MaxNodes-1)) {
		t.Errorf("Run that makes a tree as great as may be: %v, %v", y, fault)
	}
	ran(t, n("a"), slices.Concat(grow, back))
}

// bad: a tree, a deed that can't be done to it, and its code.
type bad struct {
	what string
	t    api.Tree
	d    api.Deed
	code int
}

// each: each code of deed.Do, but that of the tree itself.
func each() []bad {
	small := n("a", n("b", n("c")), n("d"))
	return []bad{
		{"no kind", small, api.Deed{Label: "x"}, api.ErrKind},
		{"another kind", small, api.Deed{Kind: 4, Label: "x"}, api.ErrKind},
		{"no form, a name", small, api.Deed{Kind: api.DName, At: 1, Label: "x"}, api.ErrForm},
		{"no form, one away", small, api.Deed{Kind: api.DDelete, Path: []int{0}, Label: "x"}, api.ErrForm},
		{"below 0 in a path", small, deleted(0, -1), api.ErrRange},
		{"At below 0", small, inserted("x", -1, 0), api.ErrRange},
		{"Many below 0", small, inserted("x", 0, -1), api.ErrRange},
		{"no label", small, named("", 0), api.ErrName},
		{"no label of one put in", small, inserted("X", 0, 0), api.ErrName},
		{"the root away", small, deleted(), api.ErrRoot},
		{"no node to name", small, named("x", 2), api.ErrNone},
		{"no node to take away", small, deleted(0, 0, 0), api.ErrNone},
		{"no node to put one in", small, inserted("x", 0, 0, 9), api.ErrNone},
		{"too far right", small, inserted("x", 3, 0), api.ErrRange},
		{"too many beneath", small, inserted("x", 1, 2), api.ErrRange},
		{"one more", wide(api.MaxNodes - 1), inserted("x", 0, 0), api.ErrMany},
		{"one deeper", chain(api.MaxDeep), inserted("x", 0, 1), api.ErrDeep},
	}
}

// TestRunFaults: each code at the first number, at some in the middle, and at
// the last, of scripts up to as long as may be; behind it stand deeds that can
// be done, or can't.
func TestRunFaults(t *testing.T) {
	for _, c := range each() {
		for _, at := range []int{0, 1, 2, 3, 40, 41, api.MaxOps - 2, api.MaxOps - 1} {
			ahead := slices.Repeat(list(named("x"), named("y", 0)), api.MaxOps)[:at]
			if !ran(t, c.t, ahead) {
				t.Errorf("Run of what stands ahead of %s can't be done", c.what)
			}
			rest := api.MaxOps - 1 - at
			for _, behind := range [][]api.Deed{nil, turns(rest), make([]api.Deed, rest), slices.Repeat(list(deleted()), rest)} {
				fails(t, c.what, c.t, slices.Concat(ahead, list(c.d), behind), api.Fault{Code: c.code, At: at})
			}
		}
	}
}

// TestRunFirst: of more than one fault the first is told that the chapter
// names: the tree's, too many deeds, the first deed that can't be done.
func TestRunFirst(t *testing.T) {
	none := make([]api.Deed, 3)
	tooMany := turns(api.MaxOps + 1)
	tooManyNone := make([]api.Deed, api.MaxOps+1)
	for _, c := range []struct {
		what string
		t    api.Tree
		code int
	}{
		{"no tree", api.Tree{}, api.ErrName},
		{"no label of a kid", n("a", n("B")), api.ErrName},
		{"too many nodes", wide(api.MaxNodes), api.ErrMany},
		{"too deep", chain(api.MaxDeep + 1), api.ErrDeep},
	} {
		for _, l := range [][]api.Deed{nil, {}, list(named("a")), list(named("b", 0)), list(deleted(0)), none, tooMany, tooManyNone} {
			fails(t, c.what, c.t, l, api.Fault{Code: c.code, At: -1})
		}
	}
	for _, x := range []api.Tree{n("a"), wide(api.MaxNodes - 1), chain(api.MaxDeep)} {
		fails(t, "too many deeds that are none", x, tooManyNone, api.Fault{Code: api.ErrMany, At: -1})
		fails(t, "deeds that are none", x, none, api.Fault{Code: api.ErrKind, At: 0})
		fails(t, "two that can't be done", x, list(named("b"), deleted(), api.Deed{}), api.Fault{Code: api.ErrRoot, At: 1})
	}
}

// TestRunOnTheWay: trees as great and as deep as may be on the way; one node
// more, or deeper, is none, though the next deed would take it away.
func TestRunOnTheWay(t *testing.T) {
	almost, full := wide(api.MaxNodes-2), wide(api.MaxNodes-1)
	for _, l := range [][]api.Deed{
		list(inserted("x", 0, 0), deleted(0)),
		list(inserted("x", 0, api.MaxNodes-2), deleted(0), inserted("x", 1, 0), deleted(7)),
		list(inserted("x", 3, 0), named("y", 3), deleted(3)),
	} {
		ran(t, almost, l)
		fails(t, "one more on the way", full, l, api.Fault{Code: api.ErrMany, At: 0})
		late := append(list(named("x"), deleted(0), inserted("y", 0, 0)), l...)
		fails(t, "one more on the way, later", full, late, api.Fault{Code: api.ErrMany, At: 3})
		if !ran(t, full, append(list(deleted(0)), l...)) {
			t.Errorf("Run(%v): a full tree of which one goes first", l)
		}
	}
	shallow, deep := chain(api.MaxDeep-1), chain(api.MaxDeep)
	lowest := make([]int, api.MaxDeep-1)
	for _, l := range [][]api.Deed{
		list(inserted("x", 0, 1), deleted(0)),
		list(inserted("x", 0, 1, lowest[1:]...), deleted(0)),
		list(inserted("x", 0, 1, 0, 0), named("y", 0, 0, 0), deleted(0, 0, 0)),
	} {
		ran(t, shallow, l)
		fails(t, "one deeper on the way", deep, l, api.Fault{Code: api.ErrDeep, At: 0})
		late := append(list(named("x"), deleted(0), inserted("y", 0, 1)), l...)
		fails(t, "one deeper on the way, later", deep, late, api.Fault{Code: api.ErrDeep, At: 3})
		if !ran(t, deep, append(list(deleted(0)), l...)) {
			t.Errorf("Run(%v): a deep tree of which one goes first", l)
		}
	}
	fails(t, "one deeper beneath the lowest", deep, list(inserted("x", 0, 0, append(lowest, 0)...), deleted(0)), api.Fault{Code: api.ErrDeep, At: 0})
	for _, x := range great(t) {
		fails(t, "one more of a great tree", x, list(inserted("x", 0, 1), deleted(0)), api.Fault{Code: api.ErrMany, At: 0})
		ran(t, x, list(deleted(0), named("x", 0), inserted("y", 0, 0), deleted(1)))
	}
}

// chosen: a deed that r chooses: seldom one that can't be done.
func chosen(r *rand.Rand, x api.Tree) api.Deed {
	if r.Intn(60) == 0 {
		number := func() int { return r.Intn(4) - 1 }
		return api.Deed{Kind: r.Intn(5), Path: []int{number(), number()}, At: number(), Many: number(), Label: "c"}
	}
	all := deeds(x, "p", "q")
	for {
		d := all[r.Intn(len(all))]
		if d.Kind == api.DDelete || d.Kind == api.DName || r.Intn(4) == 0 {
			return d
		}
	}
}

// TestRunAny: scripts of all lengths that r chooses, held against the second
// reckoning.
func TestRunAny(t *testing.T) {
	r := rand.New(rand.NewSource(6))
	whole, broken := 0, 0
	for i := range 300 {
		x := grown(r, 1+r.Intn(api.MaxNodes), 1+r.Intn(4))
		var l []api.Deed
		for y := x; len(l) < i%(api.MaxOps+1); {
			d := chosen(r, y)
			l = append(l, d)
			if z, _, code := deed.Do(y, d); code == 0 {
				y = z
			}
		}
		if ran(t, x, l) {
			whole++
		} else {
			broken++
		}
	}
	if whole < 30 || broken < 30 {
		t.Errorf("%d scripts could be done, %d could not: too few of one kind", whole, broken)
	}
}

// TestInts: numbers as great and as small as an int can be, in each field, at
// the first number and further on.
func TestInts(t *testing.T) {
	ints := []int{least, least + 1, -1 << 32, -1, 0, 1, 2, 3, 4, 1 << 32, most - 1, most}
	x := read(t, "a(b(c d) e)")
	for _, kind := range ints {
		for _, at := range ints {
			for _, many := range ints {
				for _, step := range ints {
					d := api.Deed{Kind: kind, Path: []int{step}, At: at, Many: many, Label: "x"}
					ran(t, x, list(d))
					ran(t, x, list(named("y"), d, named("z")))
					d.Label = ""
					ran(t, x, list(inserted("y", 0, 0), d))
				}
			}
		}
	}
}

// TestDiff: trees that are the same, with other labels alone, with nodes that
// went, that came, and with all three.
func TestDiff(t *testing.T) {
	for _, c := range []struct {
		a, b string
		want []api.Deed
	}{
		{"a", "a", nil},
		{"a(b(c) d)", "a(b(c) d)", nil},
		{"a(a(a) a)", "a(a(a) a)", nil},

		{"a", "b", list(named("b"))},
		{"a(b)", "b(a)", list(named("a", 0), named("b"))},
		{"a(b(c) d)", "x(b(y) z)", list(named("y", 0, 0), named("z", 1), named("x"))},
		{"a(b(c d) e(f))", "z(y(x w) v(u))", list(named("x", 0, 0), named("w", 0, 1), named("y", 0), named("u", 1, 0), named("v", 1), named("z"))},

		{"a(b(c) d)", "a(c)", list(deleted(0), deleted(1))},
		{"a(b(c(d)))", "a(d)", list(deleted(0, 0), deleted(0))},
		{"a(x b(x c x) x)", "a(b(c))", list(deleted(0), deleted(0, 0), deleted(0, 1), deleted(1))},
		{"a(b(c d) e)", "a", list(deleted(0, 0), deleted(0, 0), deleted(0), deleted(0))},
		{"a(b b)", "a(b)", list(deleted(0))},

		{"a(c)", "a(b(c) d)", list(inserted("d", 1, 0), inserted("b", 0, 1))},
		{"a(d)", "a(b(c(d)))", list(inserted("b", 0, 1), inserted("c", 0, 1, 0))},
		{"a(b(c))", "a(x b(x c x) x)", list(inserted("x", 1, 0), inserted("x", 1, 0, 0), inserted("x", 0, 0, 0), inserted("x", 0, 0))},
		{"a", "a(b(c d) e)", list(inserted("e", 0, 0), inserted("b", 0, 0), inserted("d", 0, 0, 0), inserted("c", 0, 0, 0))},
		{"a(b)", "a(b b)", list(inserted("b", 0, 0))},

		// The root stays the root, though it would be less if it went.
		{"a(b)", "b", list(deleted(0), named("b"))},
		{"b", "a(b)", list(named("a"), inserted("b", 0, 0))},

		// A label is told at the path that the node has when all have gone.
		{"a(x(b c) d)", "a(b c e)", list(deleted(0), named("e", 2))},
		{"a(x(b(p) c) d)", "a(b(q) c e)", list(deleted(0), named("q", 0, 0), named("e", 2))},
		{"a(b(c) d)", "a(c e(d))", list(deleted(0), inserted("e", 1, 1))},
		{"f(d(a c(b)) e)", "f(c(d(a b)) e)", list(deleted(0, 1), inserted("c", 0, 1))},
		{"a(x(b c) d)", "q(b y(c d))", list(deleted(0), named("q"), inserted("y", 1, 2))},
		{"a(x(b c) d(e))", "q(b y(c d(f)))", list(deleted(0), named("f", 2, 0), named("q"), inserted("y", 1, 2))},
	} {
		a, b := read(t, c.a), read(t, c.b)
		if l, code := script.Diff(a, b); code != 0 || !sameDeeds(l, c.want) {
			t.Errorf("Diff(%s, %s): %v, %d, want %v", c.a, c.b, l, code, c.want)
		}
		differs(t, a, b)
		differs(t, b, a)
	}
}

// TestDiffFewest: of all small trees a search in all scripts, of trees that are
// greater, too, finds none with fewer deeds; and all is as the second reckoning
// has it.
func TestDiffFewest(t *testing.T) {
	for _, c := range []struct {
		nodes, room int
		labels      []string
	}{{4, 6, []string{"a", "b"}}, {3, 5, []string{"a", "b", "c"}}} {
		w := weave(t, c.room, c.labels...)
		for i, a := range w.trees {
			if tree.Size(a) > c.nodes {
				continue
			}
			far := w.from(i)
			for j, b := range w.trees {
				if tree.Size(b) > c.nodes {
					continue
				}
				if l := differs(t, a, b); len(l) != far[j] {
					t.Errorf("Diff(%v, %v): %v, and %d deeds would do", a, b, l, far[j])
				}
			}
		}
	}
}

// TestDiffAny: trees that r chooses, up to as great as may be, and those that
// came of others by a few deeds.
func TestDiffAny(t *testing.T) {
	r := rand.New(rand.NewSource(7))
	kinds := map[int]int{}
	for range 300 {
		letters := 1 + r.Intn(4)
		a := grown(r, 1+r.Intn(api.MaxNodes), letters)
		for _, d := range differs(t, a, grown(r, 1+r.Intn(api.MaxNodes), letters)) {
			kinds[d.Kind]++
		}
		b, many := a, 0
		for range r.Intn(6) {
			all := deeds(b, "a", "b", "x")
			if c, _, code := deed.Do(b, all[r.Intn(len(all))]); code == 0 {
				b = c
				many++
			}
		}
		if l := differs(t, a, b); len(l) > many {
			t.Errorf("Diff(%v, %v): %d deeds, and %d made it", a, b, len(l), many)
		}
	}
	for _, kind := range []int{api.DName, api.DDelete, api.DInsert} {
		if kinds[kind] == 0 {
			t.Errorf("no test had a deed of kind %d", kind)
		}
	}
}

// TestDiffGreat: trees as great and as deep as may be, and as small, both ways.
func TestDiffGreat(t *testing.T) {
	all := append(great(t), n("a"), n("x"), chain(api.MaxDeep), wide(api.MaxNodes-2))
	start := time.Now()
	for _, a := range all {
		for _, b := range all {
			if l := differs(t, a, b); len(l) > api.MaxOps {
				t.Errorf("Diff(%v, %v): %d deeds are no script", a, b, len(l))
			}
		}
	}
	if took := time.Since(start); took > time.Minute {
		t.Errorf("Diff of great trees takes %v", took)
	}
}

// TestDiffFaults: trees that are none, and which of two codes is told.
func TestDiffFaults(t *testing.T) {
	good := n("a", n("b"))
	for _, c := range []struct {
		what string
		a, b api.Tree
		want int
	}{
		{"no first one", api.Tree{}, good, api.ErrName},
		{"no second one", good, api.Tree{}, api.ErrName},
		{"neither", api.Tree{}, api.Tree{}, api.ErrName},
		{"the first too great", wide(api.MaxNodes), good, api.ErrMany},
		{"the second too great", good, wide(api.MaxNodes), api.ErrMany},
		{"the first too deep", chain(api.MaxDeep + 1), good, api.ErrDeep},
		{"the second too deep", good, chain(api.MaxDeep + 1), api.ErrDeep},
		{"a label of the first", n("a", n("b", n("C"))), good, api.ErrName},
		{"a label of the second", good, n("a", n("b", n("C"))), api.ErrName},
		{"the first too deep, the second too great", chain(api.MaxDeep + 1), wide(api.MaxNodes), api.ErrDeep},
		{"the first too great, the second too deep", wide(api.MaxNodes), chain(api.MaxDeep + 1), api.ErrMany},
		{"no first one, the second too great", api.Tree{}, wide(api.MaxNodes), api.ErrName},
		{"the first too great, no second one", wide(api.MaxNodes), api.Tree{}, api.ErrMany},
		{"the same that is none", n("a", n("")), n("a", n("")), api.ErrName},
	} {
		l, code := script.Diff(c.a, c.b)
		if code != c.want || len(l) != 0 {
			t.Errorf("Diff, %s: %v, %d, want %d", c.what, l, code, c.want)
		}
		if _, want := dist.Of(c.a, c.b); code != want {
			t.Errorf("Diff, %s: %d, and dist.Of has %d", c.what, code, want)
		}
	}
}

// TestEndless: kids that lead back to themselves have no end, but calls do; and
// a path as long as you like leads nowhere.
func TestEndless(t *testing.T) {
	for _, round := range []int{1, 2, 7} {
		lists := make([][]api.Tree, round)
		for i := range lists {
			lists[i] = []api.Tree{n("b"), n("c")}
		}
		for i := range lists {
			lists[i][1].Kids = lists[(i+1)%round]
		}
		x := n("a", lists[0]...)
		ended := make(chan struct{})
		go func() {
			defer close(ended)
			for _, l := range [][]api.Deed{nil, list(named("x")), list(deleted(1), deleted(1)), make([]api.Deed, api.MaxOps+1)} {
				fails(t, "a tree without end", x, l, api.Fault{Code: api.ErrMany, At: -1})
			}
			for _, two := range [][2]api.Tree{{x, x}, {x, n("a")}, {n("a"), x}} {
				if l, code := script.Diff(two[0], two[1]); code != api.ErrMany || len(l) != 0 {
					t.Errorf("Diff of a tree without end: %v, %d", l, code)
				}
			}
		}()
		select {
		case <-ended:
		case <-time.After(time.Minute):
			t.Fatal("a call with a tree without end does not end")
		}
	}
	long := make([]int, 1<<20)
	fails(t, "a path past the tree", chain(api.MaxDeep), list(named("x"), deleted(long...)), api.Fault{Code: api.ErrNone, At: 1})
}

// TestEmptyLists: a list without elements is the same, nil or empty.
func TestEmptyLists(t *testing.T) {
	none, empty := n("a", n("b"), n("c")), n("a", n("b", []api.Tree{}...), n("c", []api.Tree{}...))
	for _, two := range [][2][]api.Deed{
		{nil, {}},
		{list(named("x")), list(named("x", []int{}...))},
		{list(inserted("x", 0, 1), deleted(0)), list(inserted("x", 0, 1, []int{}...), deleted(0))},
		{list(named("x"), deleted()), list(named("x"), deleted([]int{}...))},
	} {
		y, back, fault := script.Run(none, two[0])
		z, undo, same := script.Run(empty, two[1])
		if fault != same || !tree.Same(y, z) || !sameDeeds(back, undo) {
			t.Errorf("Run(%v): %v, %v, %v and %v, %v, %v", two[0], y, back, fault, z, undo, same)
		}
	}
	other := n("a", n("x", n("b")))
	for _, two := range [][2]api.Tree{{none, empty}, {empty, none}} {
		if l, code := script.Diff(two[0], two[1]); len(l) != 0 || code != 0 {
			t.Errorf("Diff(%v, %v): %v, %d", two[0], two[1], l, code)
		}
		l, _ := script.Diff(two[0], other)
		m, _ := script.Diff(two[1], other)
		if !sameDeeds(l, m) {
			t.Errorf("Diff(%v): %v and %v", other, l, m)
		}
	}
}

// TestAlike: what is answered hangs on the arguments alone.
func TestAlike(t *testing.T) {
	a, b := read(t, "a(x(b c) d(e))"), read(t, "q(b y(c d(f)))")
	l, code := script.Diff(a, b)
	y, back, fault := script.Run(a, l)
	for range 3 {
		m, same := script.Diff(a, b)
		z, undo, alike := script.Run(a, l)
		if code != same || fault != alike || !reflect.DeepEqual(l, m) || !reflect.DeepEqual(y, z) || !reflect.DeepEqual(back, undo) {
			t.Errorf("Diff and Run answer %v, %v, %v, then %v, %v, %v", l, y, back, m, z, undo)
		}
	}
}
