package deed_test

import (
	"math"
	"reflect"
	"strings"
	"testing"
	"time"

	"pleaching/api"
	"pleaching/deed"
	"pleaching/text"
	"pleaching/tree"
)

// n: a node with that label and those kids.
func n(label string, kids ...api.Tree) api.Tree {
	return api.Tree{Label: label, Kids: kids}
}

// read: the tree of a text.
func read(t *testing.T, s string) api.Tree {
	t.Helper()
	x, fault := text.Parse(s)
	if fault.Code != 0 {
		t.Fatalf("Parse(%q): %v", s, fault)
	}
	return x
}

// wide: a root and so many kids.
func wide(kids int) api.Tree {
	t := n("a")
	for range kids {
		t.Kids = append(t.Kids, n("b"))
	}
	return t
}

// chain: a node beneath so many others.
func chain(above int) api.Tree {
	t := n("z")
	for range above {
		t = n("a", t)
	}
	return t
}

// full: a tree as great and as deep as may be: a chain, and behind its first
// node's kid so many leaves as there is room for.
func full() api.Tree {
	t := chain(api.MaxDeep)
	for range api.MaxNodes - api.MaxDeep - 1 {
		t.Kids = append(t.Kids, n("b"))
	}
	return t
}

func named(label string, path ...int) api.Deed {
	return api.Deed{Kind: api.DName, Path: path, Label: label}
}

func deleted(path ...int) api.Deed {
	return api.Deed{Kind: api.DDelete, Path: path}
}

func inserted(label string, at, many int, path ...int) api.Deed {
	return api.Deed{Kind: api.DInsert, Path: path, At: at, Many: many, Label: label}
}

// fails: is nothing but that code answered?
func fails(t *testing.T, what string, x api.Tree, d api.Deed, want int) {
	t.Helper()
	y, back, code := deed.Do(x, d)
	if code != want {
		t.Errorf("Do of %s: code %d, want %d", what, code, want)
	}
	if y.Label != "" || len(y.Kids) != 0 || !deed.Same(back, api.Deed{}) {
		t.Errorf("Do of %s: with code %d it answers %v, %v", what, code, y, back)
	}
}

const most, least = math.MaxInt, math.MinInt

// TestCheck: each code of point 1 alone, each edge of it, and what is a deed.
func TestCheck(t *testing.T) {
	longest := strings.Repeat("m", api.MaxLabel)
	for _, c := range []struct {
		what string
		d    api.Deed
		want int
	}{
		{"a name for the root", named("b"), 0},
		{"a name further down", named("b", 0, 7, 2), 0},
		{"a name, an empty path", named("b", []int{}...), 0},
		{"the longest name", named(longest, 1), 0},
		{"one away", deleted(0), 0},
		{"one away further down", deleted(3, 0, 1), 0},
		{"one in beneath the root", inserted("b", 0, 0), 0},
		{"one in further down", inserted("b", 2, 3, 0, 1), 0},
		{"one in, the longest name", inserted(longest, 0, 0), 0},
		{"numbers as great as can be", inserted("b", most, most, most, most), 0},
		{"a path as long as you like", named("b", make([]int, 100000)...), 0},

		{"no kind", api.Deed{Label: "b"}, api.ErrKind},
		{"a kind below", api.Deed{Kind: -1, Label: "b"}, api.ErrKind},
		{"a kind beyond", api.Deed{Kind: 4, Label: "b"}, api.ErrKind},
		{"the least kind", api.Deed{Kind: least, Label: "b"}, api.ErrKind},
		{"the greatest kind", api.Deed{Kind: most, Label: "b"}, api.ErrKind},
		{"a kind whose low bits are one", api.Deed{Kind: 1<<32 + api.DName, Label: "b"}, api.ErrKind},

		{"a name with At", api.Deed{Kind: api.DName, At: 1, Label: "b"}, api.ErrForm},
		{"a name with Many", api.Deed{Kind: api.DName, Many: 1, Label: "b"}, api.ErrForm},
		{"a name with the greatest At", api.Deed{Kind: api.DName, At: most, Label: "b"}, api.ErrForm},
		{"a name with At and Many that make 0", api.Deed{Kind: api.DName, At: 1, Many: -1, Label: "b"}, api.ErrForm},
		{"one away with At", api.Deed{Kind: api.DDelete, Path: []int{0}, At: 1}, api.ErrForm},
		{"one away with Many", api.Deed{Kind: api.DDelete, Path: []int{0}, Many: 1}, api.ErrForm},
		{"one away with a Label", api.Deed{Kind: api.DDelete, Path: []int{0}, Label: "b"}, api.ErrForm},
		{"one away with a Label that is none", api.Deed{Kind: api.DDelete, Path: []int{0}, Label: "B"}, api.ErrForm},

		{"At below 0", inserted("b", -1, 0), api.ErrRange},
		{"Many below 0", inserted("b", 0, -1), api.ErrRange},
		{"Many below 0 behind a great At", inserted("b", most, -1), api.ErrRange},
		{"the least At", inserted("b", least, 0), api.ErrRange},
		{"the least Many", inserted("b", 0, least), api.ErrRange},
		{"a name, the path's first below 0", named("b", -1, 0, 0), api.ErrRange},
		{"a name, the path's middle below 0", named("b", 0, -1, 0), api.ErrRange},
		{"a name, the path's last below 0", named("b", 0, 0, -1), api.ErrRange},
		{"one away, the path below 0", deleted(-1), api.ErrRange},
		{"one away, the least in the path", deleted(0, least), api.ErrRange},
		{"one in, the path below 0", inserted("b", 0, 0, -1), api.ErrRange},

		{"an empty name", named(""), api.ErrName},
		{"a name too long", named(longest + "m"), api.ErrName},
		{"a name that is none", named("bC", 0), api.ErrName},
		{"one in, an empty name", inserted("", 0, 0), api.ErrName},
		{"one in, a name too long", inserted(longest+"m", 0, 0), api.ErrName},
		{"one in, a name that is none", inserted("b c", 1, 2, 3), api.ErrName},

		{"the root away", deleted(), api.ErrRoot},
		{"the root away, an empty path", deleted([]int{}...), api.ErrRoot},
	} {
		if got := deed.Check(c.d); got != c.want {
			t.Errorf("Check of %s: %d, want %d", c.what, got, c.want)
		}
		if c.want != 0 {
			fails(t, c.what, n("a", n("b", n("c"))), c.d, c.want)
		}
	}
}

// TestCheckFirst: each two codes of point 1 that can be so at once. (What has
// no Label to have has no ErrName; the root has no number in its path, so that
// it has ErrRange by At or Many alone, and those are ErrForm, too.)
func TestCheckFirst(t *testing.T) {
	for _, c := range []struct {
		what string
		d    api.Deed
		want int
	}{
		{"kind, form", api.Deed{At: 1, Many: 1, Label: "b"}, api.ErrKind},
		{"kind, range", api.Deed{Kind: 4, Path: []int{-1}, Label: "b"}, api.ErrKind},
		{"kind, range of At", api.Deed{Kind: 4, At: -1, Label: "b"}, api.ErrKind},
		{"kind, name", api.Deed{Kind: 4, Path: []int{0}, Label: "B"}, api.ErrKind},
		{"kind, root", api.Deed{}, api.ErrKind},
		{"all of them", api.Deed{Kind: -2, At: -1, Many: -1, Label: "B"}, api.ErrKind},

		{"a name: form, range of At", api.Deed{Kind: api.DName, At: -1, Label: "b"}, api.ErrForm},
		{"a name: form, range of Many", api.Deed{Kind: api.DName, Many: least, Label: "b"}, api.ErrForm},
		{"a name: form, range of the path", api.Deed{Kind: api.DName, Path: []int{-1}, At: 1, Label: "b"}, api.ErrForm},
		{"a name: form, name", api.Deed{Kind: api.DName, Many: 1}, api.ErrForm},
		{"one away: form, range of the path", api.Deed{Kind: api.DDelete, Path: []int{-1}, Label: "b"}, api.ErrForm},
		{"one away: form, range of At", api.Deed{Kind: api.DDelete, Path: []int{0}, At: -1}, api.ErrForm},
		{"one away: form, root", api.Deed{Kind: api.DDelete, Label: "b"}, api.ErrForm},
		{"one away: form by At, root", api.Deed{Kind: api.DDelete, At: 1}, api.ErrForm},
		{"one away: form, range, root", api.Deed{Kind: api.DDelete, Many: -1}, api.ErrForm},

		{"a name: range, name", named("", -1), api.ErrRange},
		{"one in: range of At, name", inserted("", -1, 0), api.ErrRange},
		{"one in: range of Many, name", inserted("B", 0, -1), api.ErrRange},
		{"one in: range of the path, name", inserted("bbbbbbb", 0, 0, 0, -1), api.ErrRange},
	} {
		if got := deed.Check(c.d); got != c.want {
			t.Errorf("Check of %s: %d, want %d", c.what, got, c.want)
		}
		fails(t, c.what, n("a"), c.d, c.want)
	}
}

func TestSame(t *testing.T) {
	some := inserted("b", 1, 2, 3, 4)
	for _, c := range []struct {
		what string
		a, b api.Deed
		want bool
	}{
		{"two of none", api.Deed{}, api.Deed{}, true},
		{"nil and empty paths", deleted(), deleted([]int{}...), true},
		{"two in other memory", some, inserted(strings.Clone("b"), 1, 2, 3, 4), true},
		{"two that are none", api.Deed{Kind: -9, At: -1, Label: "\x00"}, api.Deed{Kind: -9, At: -1, Label: "\x00"}, true},
		{"another kind", named("b"), inserted("b", 0, 0), false},
		{"another kind that is none", api.Deed{Kind: least}, api.Deed{Kind: most}, false},
		{"another At", some, inserted("b", 2, 2, 3, 4), false},
		{"another Many", some, inserted("b", 1, 3, 3, 4), false},
		{"At and Many the other way round", some, inserted("b", 2, 1, 3, 4), false},
		{"another Label", some, inserted("c", 1, 2, 3, 4), false},
		{"a longer Label", some, inserted("bb", 1, 2, 3, 4), false},
		{"a path's first", some, inserted("b", 1, 2, 2, 4), false},
		{"a path's last", some, inserted("b", 1, 2, 3, 5), false},
		{"a longer path", some, inserted("b", 1, 2, 3, 4, 0), false},
		{"a path and none", deleted(0), deleted(), false},
		{"a path and its beginning", deleted(0, 1), deleted([]int{0, 1}[:1]...), false},
		{"beginnings of other paths", deleted([]int{0, 1}[:1]...), deleted([]int{0, 2}[:1]...), true},
	} {
		if got := deed.Same(c.a, c.b); got != c.want {
			t.Errorf("Same of %s: %v", c.what, got)
		}
		if got := deed.Same(c.b, c.a); got != c.want {
			t.Errorf("Same of %s, the other way round: %v", c.what, got)
		}
	}
}

// TestDo: each kind at the root and further down, at each place, with none,
// some and all kids beneath the new node.
func TestDo(t *testing.T) {
	const s = "a(b(p q r) c d(e(f) g))"
	longest := strings.Repeat("m", api.MaxLabel)
	for _, c := range []struct {
		d    api.Deed
		want string
		back api.Deed
	}{
		{named("x"), "x(b(p q r) c d(e(f) g))", named("a")},
		{named("a"), s, named("a")},
		{named("x", 0), "a(x(p q r) c d(e(f) g))", named("b", 0)},
		{named("x", 1), "a(b(p q r) x d(e(f) g))", named("c", 1)},
		{named(longest, 2), "a(b(p q r) c " + longest + "(e(f) g))", named("d", 2)},
		{named("x", 0, 1), "a(b(p x r) c d(e(f) g))", named("q", 0, 1)},
		{named("x", 2, 0, 0), "a(b(p q r) c d(e(x) g))", named("f", 2, 0, 0)},

		{deleted(0), "a(p q r c d(e(f) g))", inserted("b", 0, 3)},
		{deleted(1), "a(b(p q r) d(e(f) g))", inserted("c", 1, 0)},
		{deleted(2), "a(b(p q r) c e(f) g)", inserted("d", 2, 2)},
		{deleted(0, 0), "a(b(q r) c d(e(f) g))", inserted("p", 0, 0, 0)},
		{deleted(0, 1), "a(b(p r) c d(e(f) g))", inserted("q", 1, 0, 0)},
		{deleted(0, 2), "a(b(p q) c d(e(f) g))", inserted("r", 2, 0, 0)},
		{deleted(2, 0), "a(b(p q r) c d(f g))", inserted("e", 0, 1, 2)},
		{deleted(2, 0, 0), "a(b(p q r) c d(e g))", inserted("f", 0, 0, 2, 0)},

		{inserted("x", 0, 0), "a(x b(p q r) c d(e(f) g))", deleted(0)},
		{inserted("x", 0, 1), "a(x(b(p q r)) c d(e(f) g))", deleted(0)},
		{inserted("x", 0, 2), "a(x(b(p q r) c) d(e(f) g))", deleted(0)},
		{inserted("x", 0, 3), "a(x(b(p q r) c d(e(f) g)))", deleted(0)},
		{inserted("x", 1, 0), "a(b(p q r) x c d(e(f) g))", deleted(1)},
		{inserted("x", 1, 1), "a(b(p q r) x(c) d(e(f) g))", deleted(1)},
		{inserted("x", 1, 2), "a(b(p q r) x(c d(e(f) g)))", deleted(1)},
		{inserted("x", 2, 1), "a(b(p q r) c x(d(e(f) g)))", deleted(2)},
		{inserted("x", 3, 0), "a(b(p q r) c d(e(f) g) x)", deleted(3)},
		{inserted("x", 0, 3, 0), "a(b(x(p q r)) c d(e(f) g))", deleted(0, 0)},
		{inserted("x", 1, 1, 0), "a(b(p x(q) r) c d(e(f) g))", deleted(0, 1)},
		{inserted("x", 3, 0, 0), "a(b(p q r x) c d(e(f) g))", deleted(0, 3)},
		{inserted(longest, 0, 0, 1), "a(b(p q r) c(" + longest + ") d(e(f) g))", deleted(1, 0)},
		{inserted("x", 0, 1, 2, 0), "a(b(p q r) c d(e(x(f)) g))", deleted(2, 0, 0)},
		{inserted("x", 0, 0, 2, 0, 0), "a(b(p q r) c d(e(f(x)) g))", deleted(2, 0, 0, 0)},
	} {
		y, back, code := deed.Do(read(t, s), c.d)
		if code != 0 || !tree.Same(y, read(t, c.want)) || !deed.Same(back, c.back) {
			t.Errorf("Do(%v): %v, %v, %d", c.d, y, back, code)
		}
		undone(t, read(t, s), c.d)
	}
}

// undone fails the test unless what undoes a deed, done to what came of it,
// makes the tree that it was, and is undone by the deed itself.
func undone(t *testing.T, x api.Tree, d api.Deed) {
	t.Helper()
	y, back, code := deed.Do(x, d)
	if code != 0 {
		t.Errorf("Do(%v, %v): code %d", x, d, code)
		return
	}
	if code := deed.Check(back); code != 0 {
		t.Errorf("Do(%v, %v) is undone by %v: Check %d", x, d, back, code)
	}
	z, again, code := deed.Do(y, back)
	if code != 0 || !tree.Same(z, x) || !deed.Same(again, d) {
		t.Errorf("Do(%v, %v), undone by %v: %v, %v, %d", x, d, back, z, again, code)
	}
}

// TestDoNone: a path that ends at a leaf, and those that lead past it, or past
// the last kid.
func TestDoNone(t *testing.T) {
	x := read(t, "a(b(c d) e)")
	for _, path := range [][]int{{0, 0}, {0, 1}, {1}} {
		undone(t, x, named("x", path...))
		undone(t, x, deleted(path...))
		undone(t, x, inserted("x", 0, 0, path...))
	}
	for _, path := range [][]int{{2}, {0, 2}, {1, 0}, {0, 0, 0}, {0, 1, 0}, {2, 0}, {1, 0, 0}, {most}, {0, most}, {most, 0}, {1 << 32}, make([]int, 100000)} {
		fails(t, "a name past the tree", x, named("x", path...), api.ErrNone)
		fails(t, "one away past the tree", x, deleted(path...), api.ErrNone)
		fails(t, "one in past the tree", x, inserted("x", 0, 0, path...), api.ErrNone)
		fails(t, "one in past the tree, too far right, too", x, inserted("x", most, most, path...), api.ErrNone)
	}
	fails(t, "a kid of a root without kids", n("a"), deleted(0), api.ErrNone)
}

// TestDoRange: At and Many just at, and just beyond, how many kids there are,
// and as great as an int can be.
func TestDoRange(t *testing.T) {
	x := read(t, "a(b(c d) e)")
	for _, c := range []struct {
		path []int
		kids int
	}{{nil, 2}, {[]int{0}, 2}, {[]int{1}, 0}, {[]int{0, 1}, 0}} {
		for at := range c.kids + 1 {
			undone(t, x, inserted("x", at, c.kids-at, c.path...))
			for _, many := range []int{c.kids - at + 1, c.kids + 1, most - at, most - at + min(at, 1), most} {
				fails(t, "Many beyond", x, inserted("x", at, many, c.path...), api.ErrRange)
			}
		}
		for _, at := range []int{c.kids + 1, c.kids + 2, 1 << 32, most - 1, most} {
			for _, many := range []int{0, 1, 2, most - 1, most} {
				fails(t, "At beyond", x, inserted("x", at, many, c.path...), api.ErrRange)
			}
		}
	}
}

// TestDoGreat: trees as great, as deep, and as both as may be.
func TestDoGreat(t *testing.T) {
	zeros := func(many int) []int { return make([]int, many) }
	great, deep := wide(api.MaxNodes-1), chain(api.MaxDeep)

	undone(t, wide(api.MaxNodes-2), inserted("x", 0, 0))
	undone(t, wide(api.MaxNodes-2), inserted("x", 0, api.MaxNodes-2))
	undone(t, wide(api.MaxNodes-2), inserted("x", api.MaxNodes-2, 0))
	fails(t, "one more", great, inserted("x", 0, 0), api.ErrMany)
	fails(t, "one more above all", great, inserted("x", 0, api.MaxNodes-1), api.ErrMany)
	fails(t, "one more at the end", great, inserted("x", api.MaxNodes-1, 0), api.ErrMany)
	fails(t, "one more beneath the last", great, inserted("x", 0, 0, api.MaxNodes-2), api.ErrMany)
	undone(t, great, named("x"))
	undone(t, great, named("x", api.MaxNodes-2))
	undone(t, great, deleted(0))
	undone(t, great, deleted(api.MaxNodes-2))

	undone(t, chain(api.MaxDeep-1), inserted("x", 0, 1))
	undone(t, chain(api.MaxDeep-1), inserted("x", 0, 0, zeros(api.MaxDeep-1)...))
	undone(t, deep, inserted("x", 0, 0))
	undone(t, deep, inserted("x", 1, 0))
	undone(t, deep, inserted("x", 0, 0, zeros(api.MaxDeep-1)...))
	fails(t, "one deeper by the root's kid", deep, inserted("x", 0, 1), api.ErrDeep)
	fails(t, "one deeper by the lowest", deep, inserted("x", 0, 1, zeros(api.MaxDeep-1)...), api.ErrDeep)
	fails(t, "one deeper beneath the lowest", deep, inserted("x", 0, 0, zeros(api.MaxDeep)...), api.ErrDeep)
	fails(t, "past the lowest", deep, inserted("x", 0, 0, zeros(api.MaxDeep+1)...), api.ErrNone)
	undone(t, deep, named("x", zeros(api.MaxDeep)...))
	undone(t, deep, deleted(zeros(api.MaxDeep)...))
	undone(t, deep, deleted(0))

	fails(t, "one more, one deeper", full(), inserted("x", 0, 1), api.ErrMany)
	fails(t, "one more, one deeper beneath the lowest", full(), inserted("x", 0, 0, zeros(api.MaxDeep)...), api.ErrMany)
	fails(t, "one more of both", full(), inserted("x", 0, 0), api.ErrMany)
	undone(t, full(), deleted(zeros(api.MaxDeep)...))
	undone(t, full(), deleted(0))
}

// TestDoFirst: of more than one code the first is told that the chapter names:
// the tree's, the deed's, no node, too far right, what comes.
func TestDoFirst(t *testing.T) {
	some, great, deep := n("a", n("b")), wide(api.MaxNodes-1), chain(api.MaxDeep)
	for _, c := range []struct {
		what string
		t    api.Tree
		d    api.Deed
		want int
	}{
		{"no tree, no deed", api.Tree{}, api.Deed{}, api.ErrName},
		{"no tree, a deed", n("A"), named("b"), api.ErrName},
		{"no tree by a kid, a deed that would mend it", n("a", n("B")), named("b", 0), api.ErrName},
		{"no tree by a kid, a deed that would take it away", n("a", n("B")), deleted(0), api.ErrName},
		{"too many, a deed that would take one away", wide(api.MaxNodes), deleted(0), api.ErrMany},
		{"too deep, a deed that would take one away", chain(api.MaxDeep + 1), deleted(0), api.ErrDeep},
		{"too many, no deed", wide(api.MaxNodes), deleted(), api.ErrMany},
		{"too deep, no deed", chain(api.MaxDeep + 1), inserted("b", -1, 0), api.ErrDeep},
		{"too deep, no node", chain(api.MaxDeep + 1), named("b", 1), api.ErrDeep},
		{"no tree, too far right", n("A"), inserted("b", 1, 0), api.ErrName},

		{"no kind, no node", some, api.Deed{Kind: 4, Path: []int{1}, Label: "b"}, api.ErrKind},
		{"no form, no node", some, api.Deed{Kind: api.DDelete, Path: []int{1}, Label: "b"}, api.ErrForm},
		{"no range, no node", some, named("b", 1, -1), api.ErrRange},
		{"no name, no node", some, named("", 1), api.ErrName},
		{"no name, too far right", some, inserted("", 2, 0), api.ErrName},
		{"no name, one more", great, inserted("", 0, 0), api.ErrName},
		{"the root away, of one node", n("a"), deleted(), api.ErrRoot},

		{"no node, too far right", some, inserted("b", 1, 0, 0, 0), api.ErrNone},
		{"no node, one more", great, inserted("b", 0, 0, api.MaxNodes), api.ErrNone},
		{"no node, one deeper", deep, inserted("b", 0, 0, make([]int, api.MaxDeep+1)...), api.ErrNone},

		{"too far right, one more", great, inserted("b", api.MaxNodes, 0), api.ErrRange},
		{"too many beneath it, one more", great, inserted("b", 1, api.MaxNodes-1), api.ErrRange},
		{"too far right, one deeper", deep, inserted("b", 1, 0, make([]int, api.MaxDeep)...), api.ErrRange},
		{"too many beneath it, one deeper", deep, inserted("b", 0, 2), api.ErrRange},
	} {
		fails(t, c.what, c.t, c.d, c.want)
	}
}

// TestInts: numbers as great and as small as an int can be, in each field.
func TestInts(t *testing.T) {
	ints := []int{least, least + 1, -1 << 32, -1, 0, 1, 2, 3, 4, 1 << 32, most - 1, most}
	x := read(t, "a(b(c d) e)")
	for _, kind := range ints {
		for _, at := range ints {
			for _, many := range ints {
				for _, step := range ints {
					for _, label := range []string{"", "x"} {
						compare(t, x, api.Deed{Kind: kind, Path: []int{step}, At: at, Many: many, Label: label})
					}
				}
			}
		}
	}
}

// TestEndless: kids that lead back to themselves have no end, but Do does.
func TestEndless(t *testing.T) {
	for _, round := range []int{1, 2, 7} {
		lists := make([][]api.Tree, round)
		for i := range lists {
			lists[i] = []api.Tree{n("b"), n("c")}
		}
		for i := range lists {
			lists[i][1].Kids = lists[(i+1)%round]
		}
		x := n("a", lists[0]...)
		for _, d := range []api.Deed{named("x"), named("x", 1, 1, 1), deleted(1), inserted("x", 0, 2), {}} {
			done := make(chan struct{})
			go func() {
				defer close(done)
				fails(t, "a tree without end", x, d, api.ErrMany)
			}()
			select {
			case <-done:
			case <-time.After(time.Minute):
				t.Fatal("Do of a tree without end does not end")
			}
		}
	}
}

// TestEmptyLists: a list without elements is the same, nil or empty.
func TestEmptyLists(t *testing.T) {
	none, empty := n("a", n("b"), n("c")), n("a", n("b", []api.Tree{}...), n("c", []api.Tree{}...))
	for _, d := range []api.Deed{named("x"), named("x", 0), deleted(0), deleted(1), inserted("x", 0, 0), inserted("x", 1, 1), inserted("x", 0, 0, 1), deleted(), inserted("x", 3, 0)} {
		other := d
		if len(d.Path) == 0 {
			other.Path = []int{}
		}
		y, back, code := deed.Do(none, d)
		z, again, same := deed.Do(empty, other)
		if code != same || !tree.Same(y, z) || !deed.Same(back, again) || deed.Check(d) != deed.Check(other) {
			t.Errorf("Do(%v): %v, %v, %d and %v, %v, %d", d, y, back, code, z, again, same)
		}
	}
}

// TestAlike: what is answered hangs on the arguments alone.
func TestAlike(t *testing.T) {
	x := read(t, "a(b(c d) e)")
	for _, d := range []api.Deed{named("x", 0, 1), deleted(0), inserted("x", 0, 2), deleted(9)} {
		y, back, code := deed.Do(x, d)
		for range 3 {
			z, again, same := deed.Do(x, d)
			if code != same || !reflect.DeepEqual(y, z) || !reflect.DeepEqual(back, again) {
				t.Errorf("Do(%v) answers %v, then %v", d, y, z)
			}
		}
	}
}
