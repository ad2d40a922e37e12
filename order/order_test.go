package order_test

import (
	"math"
	"math/rand"
	"slices"
	"strings"
	"testing"
	"time"
	"unsafe"

	"pleaching/api"
	"pleaching/order"
	"pleaching/text"
	"pleaching/tree"
)

// read: the tree that a text tells.
func read(t *testing.T, s string) api.Tree {
	t.Helper()
	x, fault := text.Parse(s)
	if fault.Code != 0 {
		t.Fatalf("Parse(%q): %v", s, fault)
	}
	return x
}

// line: the text of a node beneath so many others.
func line(above int) string {
	return strings.Repeat("a(", above) + "z" + strings.Repeat(")", above)
}

// flat: the text of a root with so many kids.
func flat(kids int) string {
	return "a(" + strings.Repeat(" b", kids) + ")"
}

// sample: a text of leaves and inner nodes, some labels more than once.
const sample = "a(b(c d) e b(c(f gg) abcdef))"

// sampleNodes: the sample's nodes.
func sampleNodes() []api.Node {
	return []api.Node{
		{Label: "c", Parent: 2, Left: 0},
		{Label: "d", Parent: 2, Left: 1},
		{Label: "b", Parent: 9, Left: 0},
		{Label: "e", Parent: 9, Left: 3},
		{Label: "f", Parent: 6, Left: 4},
		{Label: "gg", Parent: 6, Left: 5},
		{Label: "c", Parent: 8, Left: 4},
		{Label: "abcdef", Parent: 8, Left: 7},
		{Label: "b", Parent: 9, Left: 4},
		{Label: "a", Parent: -1, Left: 0},
	}
}

// edges: texts of the least tree, and of those that are as great and as deep
// as may be.
func edges() []string {
	low := line(api.MaxDeep)
	return []string{
		"a", "abcdef", "a(b)", "a(b c)", "a(b(c))", "a(b(c) d)", "a(b c(d e))", sample,
		flat(api.MaxNodes - 1), low, "a(b " + line(api.MaxDeep-1) + " c)",
		low[:len(low)-1] + strings.Repeat(" b", api.MaxNodes-api.MaxDeep-1) + ")",
	}
}

// shapes: all trees of so many nodes, all with one label.
func shapes(nodes int, label string) []api.Tree {
	var lists func(nodes int) [][]api.Tree
	lists = func(nodes int) [][]api.Tree {
		if nodes == 0 {
			return [][]api.Tree{nil}
		}
		var all [][]api.Tree
		for first := 1; first <= nodes; first++ {
			for _, kids := range lists(first - 1) {
				for _, rest := range lists(nodes - first) {
					all = append(all, append([]api.Tree{{Label: label, Kids: kids}}, rest...))
				}
			}
		}
		return all
	}
	var all []api.Tree
	for _, kids := range lists(nodes - 1) {
		all = append(all, api.Tree{Label: label, Kids: kids})
	}
	return all
}

// grown: a tree of so many nodes, each put in at a place that r chooses.
func grown(r *rand.Rand, nodes int) api.Tree {
	x := api.Tree{Label: "a"}
	for tree.Size(x) < nodes {
		at := &x
		for above := 0; above < api.MaxDeep-1 && len(at.Kids) > 0 && r.Intn(3) > 0; above++ {
			at = &at.Kids[r.Intn(len(at.Kids))]
		}
		kid := api.Tree{Label: string(rune('a' + r.Intn(26)))}
		at.Kids = slices.Insert(at.Kids, r.Intn(len(at.Kids)+1), kid)
	}
	return x
}

// told: what the chapter says of a tree's nodes, worked out of their paths:
// each node's path, with one number behind it that is greater than any, so
// that it comes behind all beneath it, in the order of lists of numbers.
func told(x api.Tree) ([]api.Node, [][]int) {
	var paths [][]int
	var walk func(x api.Tree, path []int)
	walk = func(x api.Tree, path []int) {
		paths = append(paths, slices.Concat(path, []int{math.MaxInt}))
		for i, kid := range x.Kids {
			walk(kid, slices.Concat(path, []int{i}))
		}
	}
	walk(x, nil)
	slices.SortFunc(paths, slices.Compare)
	nodes := make([]api.Node, len(paths))
	for i := range paths {
		paths[i] = paths[i][:len(paths[i])-1]
		at, _ := tree.At(x, paths[i])
		nodes[i] = api.Node{Label: at.Label, Parent: -1, Left: -1}
	}
	for i, path := range paths {
		for j, other := range paths {
			beneath := len(other) >= len(path) && slices.Equal(other[:len(path)], path)
			if beneath && nodes[i].Left < 0 {
				nodes[i].Left = j
			}
			if beneath && len(other) == len(path)+1 {
				nodes[j].Parent = i
			}
		}
	}
	return nodes, paths
}

// tells fails the test unless Of, Tree and Path of a tree tell what the
// chapter says.
func tells(t *testing.T, x api.Tree) {
	t.Helper()
	want, paths := told(x)
	got, code := order.Of(x)
	if code != 0 || !slices.Equal(got, want) {
		t.Errorf("Of(%v): %v, %d, want %v", x, got, code, want)
	}
	back, code := order.Tree(want)
	if code != 0 || !tree.Same(back, x) {
		t.Errorf("Tree(%v): %v, %d, want %v", want, back, code, x)
	}
	for i, path := range paths {
		if got := order.Path(want, i); !slices.Equal(got, path) {
			t.Errorf("Path(%v, %d): %v, want %v", want, i, got, path)
		}
	}
}

// isNone fails the test unless Tree tells that code, and no tree, and Path no
// path at all.
func isNone(t *testing.T, what string, l []api.Node, want int) {
	t.Helper()
	if got, code := order.Tree(l); code != want || got.Label != "" || len(got.Kids) != 0 {
		t.Errorf("Tree of %s: %v, %d, want code %d", what, got, code, want)
	}
	for i := -1; i <= min(len(l), 2*api.MaxNodes); i++ {
		if got := order.Path(l, i); len(got) != 0 {
			t.Errorf("Path of %d of %s: %v", i, what, got)
		}
	}
}

func TestOf(t *testing.T) {
	for s, want := range map[string][]api.Node{
		"a":    {{Label: "a", Parent: -1, Left: 0}},
		"a(b)": {{Label: "b", Parent: 1, Left: 0}, {Label: "a", Parent: -1, Left: 0}},
		"a(b c)": {
			{Label: "b", Parent: 2, Left: 0}, {Label: "c", Parent: 2, Left: 1}, {Label: "a", Parent: -1, Left: 0},
		},
		"a(b(c))": {
			{Label: "c", Parent: 1, Left: 0}, {Label: "b", Parent: 2, Left: 0}, {Label: "a", Parent: -1, Left: 0},
		},
		"a(b(c) d)": {
			{Label: "c", Parent: 1, Left: 0}, {Label: "b", Parent: 3, Left: 0}, {Label: "d", Parent: 3, Left: 2}, {Label: "a", Parent: -1, Left: 0},
		},
		sample: sampleNodes(),
	} {
		if got, code := order.Of(read(t, s)); code != 0 || !slices.Equal(got, want) {
			t.Errorf("Of %s: %v, %d, want %v", s, got, code, want)
		}
	}
	if got, code := order.Of(api.Tree{Label: "a", Kids: []api.Tree{}}); code != 0 || !slices.Equal(got, []api.Node{{Label: "a", Parent: -1}}) {
		t.Errorf("Of a node with an empty list: %v, %d", got, code)
	}
}

func TestThereAndBack(t *testing.T) {
	for _, s := range edges() {
		tells(t, read(t, s))
	}
	for nodes := 1; nodes <= 8; nodes++ {
		for _, x := range shapes(nodes, "a") {
			tells(t, x)
		}
	}
	r := rand.New(rand.NewSource(1))
	for range 300 {
		tells(t, grown(r, 1+r.Intn(api.MaxNodes)))
	}
}

// TestOfNone: what is no tree has tree.Check's code, the first that the
// chapter of trees names.
func TestOfNone(t *testing.T) {
	n := func(label string, kids ...api.Tree) api.Tree { return api.Tree{Label: label, Kids: kids} }
	low := read(t, line(api.MaxDeep))
	many := read(t, flat(api.MaxNodes-1))
	many.Kids = append(many.Kids, n("b"))
	for _, c := range []struct {
		what string
		t    api.Tree
		want int
	}{
		{"no tree at all", api.Tree{}, api.ErrName},
		{"a wrong label", n("A"), api.ErrName},
		{"a label that is too long", n("a", n("abcdefg")), api.ErrName},
		{"an empty label beneath", n("a", n("b"), n("")), api.ErrName},
		{"too deep", n("a", low), api.ErrDeep},
		{"too many", many, api.ErrMany},
		{"a name and deep", n("", low), api.ErrDeep},
		{"a name and many", n("", many), api.ErrMany},
		{"deep and many", n("a", low, many), api.ErrMany},
	} {
		if got, code := order.Of(c.t); code != c.want || len(got) != 0 {
			t.Errorf("Of %s: %v, %d, want code %d", c.what, got, code, c.want)
		}
	}
}

// TestOfEnds: of trees that are very deep, or that have no end, too.
func TestOfEnds(t *testing.T) {
	loop := []api.Tree{{Label: "a"}}
	loop[0].Kids = loop
	deep, double := api.Tree{Label: "a"}, api.Tree{Label: "a"}
	for range 1000000 {
		deep = api.Tree{Label: "a", Kids: []api.Tree{deep}}
	}
	for range 100 {
		double = api.Tree{Label: "a", Kids: []api.Tree{double, double}}
	}
	for _, x := range []api.Tree{deep, double, loop[0]} {
		done := make(chan struct{})
		go func() {
			defer close(done)
			if got, code := order.Of(x); code != api.ErrMany || len(got) != 0 {
				t.Errorf("Of: %v, %d", got, code)
			}
		}()
		select {
		case <-done:
		case <-time.After(time.Minute):
			t.Fatal("Of does not end")
		}
	}
}

// TestOfLeavesAlone: what is handed in is not changed, and what lies behind a
// list's length is neither read nor written.
func TestOfLeavesAlone(t *testing.T) {
	kept := api.Tree{Label: "kept", Kids: []api.Tree{{Label: "kept"}}}
	none := []api.Tree{kept}
	long := []api.Tree{{Label: "b", Kids: none[:0]}, {Label: "c"}, kept}
	x := api.Tree{Label: "a", Kids: long[:2]}
	want, _ := told(read(t, "a(b c)"))
	if got, code := order.Of(x); code != 0 || !slices.Equal(got, want) {
		t.Errorf("Of: %v, %d, want %v", got, code, want)
	}
	if !tree.Same(x, read(t, "a(b c)")) || !tree.Same(long[2], kept) || !tree.Same(none[0], kept) {
		t.Errorf("Of changed what was handed in: %v, %v, %v", x, long, none)
	}
}

// TestOfLabelsAreNew: a label of the answer does not lie where the argument's
// lies.
func TestOfLabelsAreNew(t *testing.T) {
	label := strings.Repeat("a", 3)
	got, _ := order.Of(api.Tree{Label: label})
	back, _ := order.Tree([]api.Node{{Label: label, Parent: -1}})
	for _, own := range []string{got[0].Label, back.Label} {
		if own != label || unsafe.StringData(own) == unsafe.StringData(label) {
			t.Errorf("a label of an answer lies where the argument's lies: %q", own)
		}
	}
}

// TestTreeLength: how many nodes there are is asked ahead of what they are.
func TestTreeLength(t *testing.T) {
	isNone(t, "nil", nil, api.ErrNone)
	isNone(t, "an empty list", []api.Node{}, api.ErrNone)
	isNone(t, "an empty list with nodes behind it", sampleNodes()[:0], api.ErrNone)
	isNone(t, "zero nodes, as many as may be", make([]api.Node, api.MaxNodes), api.ErrOther)
	isNone(t, "one zero node too many", make([]api.Node, api.MaxNodes+1), api.ErrMany)
	isNone(t, "very many zero nodes", make([]api.Node, 1000000), api.ErrMany)

	more := api.Tree{Label: "a", Kids: make([]api.Tree, api.MaxNodes)}
	nodes, _ := told(more)
	isNone(t, "a root with MaxNodes kids", nodes, api.ErrMany)
	for i := range nodes {
		nodes[i].Label = "a"
	}
	isNone(t, "the same with labels", nodes, api.ErrMany)
}

func TestTreeDeep(t *testing.T) {
	for above := 0; above < api.MaxNodes; above++ {
		nodes := []api.Node{{Label: "z", Parent: 1}}
		for i := range above {
			nodes = append(nodes, api.Node{Label: "a", Parent: i + 2})
		}
		nodes[above].Parent = -1
		if above > api.MaxDeep {
			isNone(t, "a line that is too deep", nodes, api.ErrOther)
			continue
		}
		if got, code := order.Tree(nodes); code != 0 || !tree.Same(got, read(t, line(above))) {
			t.Errorf("Tree of %v: %v, %d", nodes, got, code)
		}
		if got := order.Path(nodes, 0); !slices.Equal(got, make([]int, above)) {
			t.Errorf("Path of 0 of %v: %v", nodes, got)
		}
	}
}

// TestTreeOfOneChange: of a tree's nodes, one with another Parent, Left or
// label: there is no such tree, but for another label that is one.
func TestTreeOfOneChange(t *testing.T) {
	numbers := []int{math.MinInt, math.MinInt + 1, -1 << 32, math.MaxInt, math.MaxInt - 1, 1 << 32}
	for i := -3; i < 15; i++ {
		numbers = append(numbers, i)
	}
	for i, node := range sampleNodes() {
		for _, number := range numbers {
			l := sampleNodes()
			l[i].Parent = number
			if number != node.Parent {
				isNone(t, "another Parent", l, api.ErrOther)
			}
			l = sampleNodes()
			l[i].Left = number
			if number != node.Left {
				isNone(t, "another Left", l, api.ErrOther)
			}
		}
		for _, label := range []string{"", "A", "abcdefg", "a b", "a(b)", "ä", "\x00", "`", "{", "-"} {
			l := sampleNodes()
			l[i].Label = label
			isNone(t, "a label that is none", l, api.ErrOther)
		}
		l := sampleNodes()
		l[i].Label = "other"
		x, code := order.Tree(l)
		if again, _ := told(x); code != 0 || !slices.Equal(again, l) {
			t.Errorf("Tree(%v): %v, %d", l, x, code)
		}
	}
}

func TestTreeOther(t *testing.T) {
	leaf := func(parent, left int) api.Node { return api.Node{Label: "a", Parent: parent, Left: left} }
	for what, l := range map[string][]api.Node{
		"a zero node":                      {{}},
		"one node without a label":         {{Parent: -1}},
		"one node that is its own parent":  {leaf(0, 0)},
		"one node with a parent beyond":    {leaf(1, 0)},
		"one node with a Parent below -1":  {leaf(-2, 0)},
		"one node with a Left too high":    {leaf(-1, 1)},
		"one node with a Left too low":     {leaf(-1, -1)},
		"two roots":                        {leaf(-1, 0), leaf(-1, 1)},
		"two roots, the last above both":   {leaf(-1, 0), leaf(-1, 0)},
		"no root":                          {leaf(1, 0), leaf(0, 0)},
		"no root, the last its own parent": {leaf(1, 0), leaf(1, 0)},
		"the root first":                   {leaf(-1, 0), leaf(0, 0)},
		"a parent ahead":                   {leaf(1, 0), leaf(0, 0), leaf(-1, 0)},
		"a parent that is the node itself": {leaf(0, 0), leaf(2, 1), leaf(-1, 0)},
		"a parent beyond the end":          {leaf(2, 0), leaf(3, 1), leaf(-1, 0)},
		"parents that cross":               {leaf(2, 0), leaf(3, 1), leaf(4, 0), leaf(4, 1), leaf(-1, 0)},
		"a Left of a parent's next kid":    {leaf(2, 0), leaf(2, 0), leaf(-1, 0)},
		"the end is missing":               sampleNodes()[:9],
		"the beginning is missing":         sampleNodes()[1:],
		"a tree of those in between":       sampleNodes()[:3],
	} {
		isNone(t, what, l, api.ErrOther)
	}
}

// TestTreeOfAll: of all lists of up to four nodes, with whatever numbers, as
// many as there are trees are nodes of a tree, each of its own.
func TestTreeOfAll(t *testing.T) {
	for nodes := 1; nodes <= 4; nodes++ {
		found := 0
		l := make([]api.Node, nodes)
		for i := range l {
			l[i].Label = "a"
		}
		var fill func(i int)
		fill = func(i int) {
			if i == nodes {
				x, code := order.Tree(l)
				if code == api.ErrOther {
					return
				}
				found++
				if again, _ := told(x); code != 0 || !slices.Equal(again, l) {
					t.Errorf("Tree(%v): %v, %d", l, x, code)
				}
				return
			}
			for l[i].Parent = -1; l[i].Parent <= nodes; l[i].Parent++ {
				for l[i].Left = -1; l[i].Left <= nodes; l[i].Left++ {
					fill(i + 1)
				}
			}
		}
		fill(0)
		if want := len(shapes(nodes, "a")); found != want {
			t.Errorf("trees of %d nodes: %d, want %d", nodes, found, want)
		}
	}
}

// TestTreeLeavesAlone: what is handed in is not changed, and what lies behind
// the list's length is neither read nor written.
func TestTreeLeavesAlone(t *testing.T) {
	kept := api.Node{Label: "kept", Parent: 7, Left: 7}
	long := append(sampleNodes(), kept, kept)
	l := long[:len(long)-2]
	x, code := order.Tree(l)
	path := order.Path(l, 5)
	if code != 0 || !tree.Same(x, read(t, sample)) || !slices.Equal(path, []int{2, 0, 1}) {
		t.Errorf("Tree: %v, %d, Path: %v", x, code, path)
	}
	if !slices.Equal(long, append(sampleNodes(), kept, kept)) {
		t.Errorf("Tree or Path changed what was handed in: %v", long)
	}
}

// TestAnswersAreNew: what is done to an answer changes no argument and no
// other answer; what is done to an argument changes no answer; and the lists
// of one tree share no memory.
func TestAnswersAreNew(t *testing.T) {
	x := read(t, sample)
	l, _ := order.Of(x)
	back, _ := order.Tree(l)
	path := order.Path(l, 5)
	clear(l[:cap(l)])
	if !tree.Same(x, read(t, sample)) || !tree.Same(back, read(t, sample)) || !slices.Equal(path, []int{2, 0, 1}) {
		t.Errorf("what was done to nodes changed %v, %v or %v", x, back, path)
	}
	l, _ = order.Of(x)
	clear(x.Kids)
	path[0] = 99
	if !slices.Equal(l, sampleNodes()) || !slices.Equal(order.Path(l, 5), []int{2, 0, 1}) {
		t.Errorf("what was done to a tree or a path changed nodes: %v", l)
	}
	var spoil func(x *api.Tree)
	spoil = func(x *api.Tree) {
		for i := range x.Kids {
			spoil(&x.Kids[i])
		}
		x.Kids = append(x.Kids, api.Tree{Label: "new"})
	}
	spoil(&back)
	want := "a(b(c(new) d(new) new) e(new) b(c(f(new) gg(new) new) abcdef(new) new) new)"
	if !tree.Same(back, read(t, want)) {
		t.Errorf("what came behind one list stands in another one: %v", back)
	}
}

func TestPath(t *testing.T) {
	l := sampleNodes()
	for i, want := range [][]int{{0, 0}, {0, 1}, {0}, {1}, {2, 0, 0}, {2, 0, 1}, {2, 0}, {2, 1}, {2}, nil} {
		if got := order.Path(l, i); !slices.Equal(got, want) {
			t.Errorf("Path of %d: %v, want %v", i, got, want)
		}
	}
	for _, i := range []int{-1, -2, 10, 11, math.MinInt, math.MaxInt, 1 << 32, -1 << 32} {
		if got := order.Path(l, i); len(got) != 0 {
			t.Errorf("Path of %d: %v", i, got)
		}
		if got := order.Path(nil, i); len(got) != 0 {
			t.Errorf("Path of %d of no nodes: %v", i, got)
		}
	}
	if got := order.Path(nil, 0); len(got) != 0 {
		t.Errorf("Path of 0 of no nodes: %v", got)
	}
	many, _ := told(read(t, flat(api.MaxNodes-1)))
	if got := order.Path(many, api.MaxNodes-2); !slices.Equal(got, []int{api.MaxNodes - 2}) {
		t.Errorf("Path of the last of many: %v", got)
	}
}
