package dist_test

import (
	"math"
	"math/rand"
	"slices"
	"strings"
	"testing"
	"time"

	"pleaching/api"
	"pleaching/dist"
	"pleaching/order"
	"pleaching/text"
	"pleaching/tree"
)

// read: the tree that a text tells.
func read(t *testing.T, s string) api.Tree {
	t.Helper()
	x, fault := text.Parse(s)
	if fault.Code != 0 {
		t.Fatalf("Parse(%q): %v", s, fault)
	}
	return x
}

// of: the Table of two trees.
func of(t *testing.T, a, b api.Tree) *dist.Table {
	t.Helper()
	x, code := dist.Of(a, b)
	if x == nil || code != 0 {
		t.Fatalf("Of(%v, %v): %v, %d", a, b, x, code)
	}
	return x
}

// line: the text of a node beneath so many others.
func line(above int) string {
	return strings.Repeat("a(", above) + "z" + strings.Repeat(")", above)
}

// great: trees that have as many nodes as may be, and, but for the first one,
// nodes as deep as may be.
func great(t *testing.T) []api.Tree {
	t.Helper()
	low, leaves := line(api.MaxDeep), strings.Repeat(" b", api.MaxNodes-api.MaxDeep-1)
	comb := "z"
	for range api.MaxDeep {
		comb = "c(b " + comb + " a)"
	}
	chain := line(api.MaxDeep - 1)
	var all []api.Tree
	for _, s := range []string{
		"a(" + strings.Repeat(" b", api.MaxNodes-1) + ")",
		low[:len(low)-1] + leaves + ")",
		"a(" + leaves + " " + chain + ")",
		strings.Repeat("a(", api.MaxDeep) + "z" + leaves + strings.Repeat(")", api.MaxDeep),
		comb[:len(comb)-1] + " c c(d) c c(d) c c(d))",
		"b(" + chain + " " + strings.ReplaceAll(chain, "a", "b") + " " + line(api.MaxDeep-2) + " " + chain + ")",
	} {
		x := read(t, s)
		if size := tree.Size(x); size != api.MaxNodes {
			t.Fatalf("%s has %d nodes", s, size)
		}
		all = append(all, x)
	}
	return all
}

// grown: a tree of so many nodes with labels of the first so many letters,
// each put in at a place that r chooses.
func grown(r *rand.Rand, nodes, letters int) api.Tree {
	label := func() string { return string(rune('a' + r.Intn(letters))) }
	x := api.Tree{Label: label()}
	for tree.Size(x) < nodes {
		at := &x
		for above := 0; above < api.MaxDeep-1 && len(at.Kids) > 0 && r.Intn(3) > 0; above++ {
			at = &at.Kids[r.Intn(len(at.Kids))]
		}
		at.Kids = slices.Insert(at.Kids, r.Intn(len(at.Kids)+1), api.Tree{Label: label()})
	}
	return x
}

// heads: the trees that the nodes of a tree head, by their numbers.
func heads(x api.Tree) []api.Tree {
	var all []api.Tree
	for _, kid := range x.Kids {
		all = append(all, heads(kid)...)
	}
	return append(all, x)
}

// twigs: the same with their numbers.
func twigs(x twig) []twig {
	var all []twig
	for _, kid := range x.kids {
		all = append(all, twigs(kid)...)
	}
	return append(all, x)
}

// holds fails the test unless all that the Table of two trees tells is what
// the second reckoning has found.
func holds(t *testing.T, a, b api.Tree, took *branches) {
	t.Helper()
	table := of(t, a, b)
	v, _ := numbered(a, 0)
	w, _ := numbered(b, 0)
	r := reckoner{known: map[[4]int]int{}, took: took}
	cost := r.least(v.kids, w.kids) + differ(v, w)
	if got := table.Cost(); got != cost {
		t.Errorf("Cost of %v and %v: %d, want %d", a, b, got, cost)
	}
	best := append(r.best(v.kids, w.kids), api.Pair{A: v.number, B: w.number})
	got := table.Best()
	if !slices.Equal(got, best) {
		t.Errorf("Best of %v and %v: %v, want %v", a, b, got, best)
	}
	for i, x := range twigs(v) {
		for j, y := range twigs(w) {
			want := r.least([]twig{x}, []twig{y})
			if got := table.Pair(i, j); got != want {
				t.Errorf("Pair(%d, %d) of %v and %v: %d, want %d", i, j, a, b, got, want)
			}
		}
	}
	first, _ := order.Of(a)
	second, _ := order.Of(b)
	x, y := table.Nodes()
	if !slices.Equal(x, first) || !slices.Equal(y, second) {
		t.Errorf("Nodes of %v and %v: %v, %v", a, b, x, y)
	}
	keeps(t, first, second, got, table.Cost())
}

// above: does the node i stand above j?
func above(l []api.Node, i, j int) bool {
	return l[i].Left <= j && j < i
}

// keeps fails the test unless what stays keeps its order, and what stands
// beneath what; the roots stay; and the way costs what is told.
func keeps(t *testing.T, a, b []api.Node, best []api.Pair, cost int) {
	t.Helper()
	if len(best) == 0 || best[len(best)-1] != (api.Pair{A: len(a) - 1, B: len(b) - 1}) {
		t.Errorf("Best of %v and %v: the roots are not the last pair of %v", a, b, best)
		return
	}
	sum := len(a) + len(b) - 2*len(best)
	for i, p := range best {
		if a[p.A].Label != b[p.B].Label {
			sum++
		}
		for _, q := range best[:i] {
			if q.A >= p.A || q.B >= p.B {
				t.Errorf("Best of %v and %v: %v and %v are not in order", a, b, q, p)
			}
			if above(a, p.A, q.A) != above(b, p.B, q.B) {
				t.Errorf("Best of %v and %v: of %v and %v one was beneath the other one", a, b, q, p)
			}
		}
	}
	if sum != cost {
		t.Errorf("Best of %v and %v: %v costs %d, want %d", a, b, best, sum, cost)
	}
}

func TestCases(t *testing.T) {
	p := func(numbers ...int) []api.Pair {
		var l []api.Pair
		for i := 0; i < len(numbers); i += 2 {
			l = append(l, api.Pair{A: numbers[i], B: numbers[i+1]})
		}
		return l
	}
	for _, c := range []struct {
		a, b       string
		cost, pair int // pair: that of the roots
		best       []api.Pair
	}{
		{"a", "a", 0, 0, p(0, 0)},
		{"a", "b", 1, 1, p(0, 0)},
		{"a", "aa", 1, 1, p(0, 0)},
		{"a(b c)", "a(b c)", 0, 0, p(0, 0, 1, 1, 2, 2)},
		{"a(b c)", "d(b c)", 1, 1, p(0, 0, 1, 1, 2, 2)},
		{"a(b)", "b(a)", 2, 2, p(0, 0, 1, 1)},

		// The root stays the root, though it would cost less if it went.
		{"a(b)", "b", 2, 1, p(1, 0)},
		{"b", "a(b)", 2, 1, p(0, 1)},
		{"a(b(c d))", "b(c d)", 2, 1, p(0, 0, 1, 1, 3, 2)},
		{"b(c d)", "a(b(c d))", 2, 1, p(0, 0, 1, 1, 2, 3)},
		{"a(x(b c d))", "x(y(b c) d)", 3, 2, p(0, 0, 1, 1, 2, 3, 4, 4)},

		// One tree each: the nodes; else one away; else one in.
		{"a(b)", "a(c)", 1, 1, p(0, 0, 1, 1)},
		{"a(b(c))", "a(c(b))", 2, 2, p(0, 0, 1, 1, 2, 2)},
		{"a(b(c))", "a(c)", 1, 1, p(0, 0, 2, 1)},
		{"a(c)", "a(b(c))", 1, 1, p(0, 0, 1, 2)},
		{"a(b(c(d)))", "a(c(d(b)))", 2, 2, p(0, 1, 1, 2, 3, 3)},

		// More trees: the last trees; else one away; else one in.
		{"a(b c)", "a(c b)", 2, 2, p(0, 0, 1, 1, 2, 2)},
		{"a(b c)", "a(c)", 1, 1, p(1, 0, 2, 1)},
		{"a(c)", "a(b c)", 1, 1, p(0, 1, 1, 2)},
		{"a(b c)", "a(b)", 1, 1, p(0, 0, 2, 1)},
		{"a(b)", "a(b c)", 1, 1, p(0, 0, 1, 2)},
		{"a(b b)", "a(b)", 1, 1, p(1, 0, 2, 1)},
		{"a(b)", "a(b b)", 1, 1, p(0, 1, 1, 2)},
		{"a(b c d)", "a(b(c d))", 2, 2, p(1, 0, 2, 1, 3, 3)},
		{"a(x(b c) d)", "a(b y(c d))", 2, 2, p(0, 0, 1, 1, 3, 2, 4, 4)},

		// Either may go or come: it goes.
		{"a(b a)", "a(b(b))", 2, 2, p(0, 1, 2, 2)},
		{"a(a(a))", "a(a b)", 2, 2, p(0, 0, 2, 2)},

		{"a(b(c) d)", "a(c e(d))", 2, 2, p(0, 0, 2, 1, 3, 3)},
		{"f(d(a c(b)) e)", "f(c(d(a b)) e)", 2, 2, p(0, 0, 1, 1, 3, 2, 4, 4, 5, 5)},
	} {
		a, b := read(t, c.a), read(t, c.b)
		x := of(t, a, b)
		pair := x.Pair(tree.Size(a)-1, tree.Size(b)-1)
		if x.Cost() != c.cost || pair != c.pair || !slices.Equal(x.Best(), c.best) {
			t.Errorf("%s and %s: Cost %d, Pair of the roots %d, Best %v, want %d, %d, %v", c.a, c.b, x.Cost(), pair, x.Best(), c.cost, c.pair, c.best)
		}
		holds(t, a, b, &branches{})
	}
}

// TestByDeeds: of all small trees the costs are as many deeds as it takes,
// each done to a whole forest, to come from one to the other one.
func TestByDeeds(t *testing.T) {
	for _, c := range []struct {
		nodes, room int
		labels      string
	}{{4, 5, "ab"}, {3, 4, "abc"}} {
		w := weave(c.room, c.labels)
		all := trees(c.nodes, c.labels)
		for _, a := range all {
			beneath := w.from(a.Kids)
			var whole [][]int
			for _, x := range heads(a) {
				whole = append(whole, w.from([]api.Tree{x}))
			}
			for _, b := range all {
				table := of(t, a, b)
				want := beneath[w.place[tell(b.Kids)]]
				if a.Label != b.Label {
					want++
				}
				if got := table.Cost(); got != want {
					t.Errorf("Cost of %v and %v: %d, want %d", a, b, got, want)
				}
				for i := range whole {
					for j, y := range heads(b) {
						want := whole[i][w.place[tell([]api.Tree{y})]]
						if got := table.Pair(i, j); got != want {
							t.Errorf("Pair(%d, %d) of %v and %v: %d, want %d", i, j, a, b, got, want)
						}
					}
				}
			}
		}
	}
}

// TestByRule: of all small trees, and of many that are greater, all is told
// as the document's words have it, and every branch of its rule is gone.
func TestByRule(t *testing.T) {
	var took branches
	small := trees(4, "ab")
	for _, a := range small {
		for _, b := range small {
			holds(t, a, b, &took)
		}
	}
	r := rand.New(rand.NewSource(4))
	for range 400 {
		letters := 1 + r.Intn(4)
		holds(t, grown(r, 1+r.Intn(12), letters), grown(r, 1+r.Intn(12), letters), &took)
	}
	for range 20 {
		letters := 1 + r.Intn(4)
		holds(t, grown(r, api.MaxNodes, letters), grown(r, 20+r.Intn(21), letters), &took)
	}
	for what, n := range map[string]int{
		"nodes as each other": took.nodes, "trees as each other": took.trees,
		"one away": took.away, "one in": took.in,
		"nodes, and it could be otherwise": took.nodesTied,
		"trees, and it could be otherwise": took.treesTied,
		"one away, and it could be one in": took.awayTied,
	} {
		if n == 0 {
			t.Errorf("no test went this way: %s", what)
		}
	}
}

// TestFewDeeds: a tree and what came of it by a few deeds beneath the root are
// no further apart than these are many.
func TestFewDeeds(t *testing.T) {
	r := rand.New(rand.NewSource(5))
	for range 200 {
		a := grown(r, 1+r.Intn(20), 3)
		b, many := a, r.Intn(4)
		for range many {
			var all [][]api.Tree
			deeds(b.Kids, "abc", func(g []api.Tree) { all = append(all, g) })
			b = api.Tree{Label: b.Label, Kids: all[r.Intn(len(all))]}
		}
		if tree.Check(b) != 0 {
			continue
		}
		if got := of(t, a, b).Cost(); got > many {
			t.Errorf("Cost of %v and %v: %d, want at most %d", a, b, got, many)
		}
		holds(t, a, b, &branches{})
	}
}

// TestGreat: trees as great and as deep as may be, both at once.
func TestGreat(t *testing.T) {
	all := great(t)
	start := time.Now()
	for _, a := range all {
		for _, b := range all {
			of(t, a, b).Best()
		}
	}
	if took := time.Since(start); took > 30*time.Second {
		t.Errorf("great trees took %v", took)
	}
	for _, a := range all {
		for _, b := range all {
			holds(t, a, b, &branches{})
		}
		one := api.Tree{Label: "none"}
		if far, back := of(t, a, one).Cost(), of(t, one, a).Cost(); far != api.MaxNodes || back != api.MaxNodes {
			t.Errorf("Cost of %v and one node: %d, and back: %d", a, far, back)
		}
		holds(t, a, one, &branches{})
		holds(t, one, a, &branches{})
	}
}

// TestOtherLabels: of trees that have the same shape, and no label in common,
// each node gets another label, and all stay.
func TestOtherLabels(t *testing.T) {
	var other func(x api.Tree) api.Tree
	other = func(x api.Tree) api.Tree {
		y := api.Tree{Label: "other"}
		for _, kid := range x.Kids {
			y.Kids = append(y.Kids, other(kid))
		}
		return y
	}
	for _, a := range append(great(t), read(t, "a"), read(t, "a(b)"), read(t, "a(b(c d) e b(c(f gg) abcdef))")) {
		x := of(t, a, other(a))
		var want []api.Pair
		for i := range tree.Size(a) {
			want = append(want, api.Pair{A: i, B: i})
		}
		if x.Cost() != len(want) || !slices.Equal(x.Best(), want) {
			t.Errorf("%v and the same with other labels: Cost %d, Best %v", a, x.Cost(), x.Best())
		}
	}
}

// TestSameTwice: nothing lies between a tree and itself, and all of it stays.
func TestSameTwice(t *testing.T) {
	r := rand.New(rand.NewSource(6))
	all := append(great(t), trees(5, "ab")...)
	for range 50 {
		all = append(all, grown(r, 1+r.Intn(api.MaxNodes), 2))
	}
	for _, a := range all {
		x := of(t, a, a)
		var want []api.Pair
		for i := range tree.Size(a) {
			want = append(want, api.Pair{A: i, B: i})
			if x.Pair(i, i) != 0 {
				t.Errorf("Pair(%d, %d) of %v twice: %d", i, i, a, x.Pair(i, i))
			}
		}
		if x.Cost() != 0 || !slices.Equal(x.Best(), want) {
			t.Errorf("%v twice: Cost %d, Best %v", a, x.Cost(), x.Best())
		}
	}
}

// TestDistance: nothing between the same trees alone, as much back as there,
// and no more than by a third one; of whole trees, and of those that nodes
// head.
func TestDistance(t *testing.T) {
	r := rand.New(rand.NewSource(7))
	mixed := great(t)
	for range 40 {
		mixed = append(mixed, grown(r, 1+r.Intn(api.MaxNodes), 2))
	}
	for _, all := range [][]api.Tree{trees(4, "ab"), trees(3, "abc"), mixed} {
		costs, pairs := make([][]int, len(all)), make([][]int, len(all))
		for i, a := range all {
			for _, b := range all {
				x := of(t, a, b)
				costs[i] = append(costs[i], x.Cost())
				pairs[i] = append(pairs[i], x.Pair(tree.Size(a)-1, tree.Size(b)-1))
			}
		}
		isDistance(t, "Cost", all, costs)
		isDistance(t, "Pair", all, pairs)
	}
}

// isDistance fails the test unless these numbers between trees are one.
func isDistance(t *testing.T, what string, all []api.Tree, far [][]int) {
	t.Helper()
	for i, a := range all {
		for j, b := range all {
			if far[i][j] < 0 || (far[i][j] == 0) != tree.Same(a, b) {
				t.Errorf("%s of %v and %v: %d", what, a, b, far[i][j])
			}
			if far[i][j] != far[j][i] {
				t.Errorf("%s of %v and %v: %d, and back: %d", what, a, b, far[i][j], far[j][i])
			}
			for k, c := range all {
				if far[i][k] > far[i][j]+far[j][k] {
					t.Errorf("%s of %v and %v is more than by %v", what, a, c, b)
				}
			}
		}
	}
}

func TestPairNone(t *testing.T) {
	a, b := read(t, "a(b(c) d)"), read(t, "a(c)")
	x := of(t, a, b)
	for _, n := range []int{-1, -2, 4, 5, api.MaxNodes, math.MaxInt, math.MaxInt - 1, math.MinInt, math.MinInt + 1, 1 << 32, -1 << 32} {
		for _, m := range []int{0, 1, -1, 2, 3, 4, n, math.MaxInt, math.MinInt} {
			if got := x.Pair(n, m); got != -1 {
				t.Errorf("Pair(%d, %d): %d", n, m, got)
			}
			if got := x.Pair(m, n); got != -1 {
				t.Errorf("Pair(%d, %d): %d", m, n, got)
			}
		}
	}
	for i := range 4 {
		for j := range 4 {
			if none := x.Pair(i, j) == -1; none != (j >= 2) {
				t.Errorf("Pair(%d, %d): %d", i, j, x.Pair(i, j))
			}
		}
	}
	one := of(t, read(t, "a"), read(t, "b"))
	if got := []int{one.Pair(0, 0), one.Pair(0, 1), one.Pair(1, 0), one.Pair(-1, 0), one.Pair(0, -1)}; !slices.Equal(got, []int{1, -1, -1, -1, -1}) {
		t.Errorf("Pair of one node each: %v", got)
	}
	g := great(t)[0]
	last := of(t, g, g)
	if got := []int{last.Pair(api.MaxNodes-1, api.MaxNodes-1), last.Pair(api.MaxNodes, 0), last.Pair(0, api.MaxNodes)}; !slices.Equal(got, []int{0, -1, -1}) {
		t.Errorf("Pair at the end of great trees: %v", got)
	}
}

// TestNoTree: tree.Check's code of the first one, then of the second one.
func TestNoTree(t *testing.T) {
	n := func(label string, kids ...api.Tree) api.Tree { return api.Tree{Label: label, Kids: kids} }
	loop := []api.Tree{n("a")}
	loop[0].Kids = loop
	deep, double := n("a"), n("a")
	for range 1000000 {
		deep = n("a", deep)
	}
	for range 100 {
		double = n("a", double, double)
	}
	low := read(t, line(api.MaxDeep))
	none := []struct {
		t    api.Tree
		want int
	}{
		{api.Tree{}, api.ErrName},
		{n("A"), api.ErrName},
		{n("a", n("b"), n("abcdefg")), api.ErrName},
		{n("a", low), api.ErrDeep},
		{n("", low), api.ErrDeep},
		{n("a", great(t)...), api.ErrMany},
		{n("a", great(t)[0]), api.ErrMany},
		{n("", low, low, low, low), api.ErrMany},
		{loop[0], api.ErrMany},
		{deep, api.ErrMany},
		{double, api.ErrMany},
	}
	isNone := func(what string, a, b api.Tree, want int) {
		done := make(chan struct{})
		go func() {
			defer close(done)
			if x, code := dist.Of(a, b); x != nil || code != want {
				t.Errorf("Of %s: %v, %d, want code %d", what, x, code, want)
			}
		}()
		select {
		case <-done:
		case <-time.After(time.Minute):
			t.Fatalf("Of %s does not end", what)
		}
	}
	for _, c := range none {
		for _, x := range append(great(t), n("a"), low) {
			isNone("the first one none", c.t, x, c.want)
			isNone("the second one none", x, c.t, c.want)
		}
		for _, d := range none {
			isNone("both none", c.t, d.t, c.want)
		}
	}
}

// TestNotOf: nothing is promised of a Table that Of did not answer, but that
// no call panics.
func TestNotOf(t *testing.T) {
	for _, x := range []*dist.Table{nil, {}} {
		a, b := x.Nodes()
		if len(a) != 0 || len(b) != 0 || x.Pair(0, 0) != -1 || x.Cost() != 0 || len(x.Best()) != 0 {
			t.Errorf("a Table that is none: %v, %v, %d, %d, %v", a, b, x.Pair(0, 0), x.Cost(), x.Best())
		}
	}
}

// TestAnswersAreNew: what is done to an answer changes neither the Table nor
// another answer.
func TestAnswersAreNew(t *testing.T) {
	x := read(t, "a(b(c) d)")
	table := of(t, x, x)
	want, _ := order.Of(x)
	stay := []api.Pair{{A: 0, B: 0}, {A: 1, B: 1}, {A: 2, B: 2}, {A: 3, B: 3}}
	a, b := table.Nodes()
	c, d := table.Nodes()
	best, other := table.Best(), table.Best()
	clear(a[:cap(a)])
	clear(c[:cap(c)])
	clear(best[:cap(best)])
	if !slices.Equal(b, want) || !slices.Equal(d, want) || !slices.Equal(other, stay) {
		t.Errorf("what was done to answers changed others: %v, %v, %v", b, d, other)
	}
	clear(b[:cap(b)])
	clear(d[:cap(d)])
	a, b = table.Nodes()
	if !slices.Equal(a, want) || !slices.Equal(b, want) {
		t.Errorf("what was done to answers changed the nodes: %v, %v", a, b)
	}
	if !slices.Equal(table.Best(), stay) || table.Cost() != 0 || table.Pair(3, 3) != 0 || table.Pair(1, 2) != 2 {
		t.Errorf("what was done to answers changed the Table: %v, %d", table.Best(), table.Cost())
	}
}

// TestLeavesAlone: what is handed in is neither changed nor kept, and what
// lies behind a list's length is neither read nor written.
func TestLeavesAlone(t *testing.T) {
	kept := api.Tree{Label: "kept", Kids: []api.Tree{{Label: "kept"}}}
	none := []api.Tree{kept}
	long := []api.Tree{{Label: "b", Kids: none[:0]}, {Label: "c"}, kept}
	a := api.Tree{Label: "a", Kids: long[:2]}
	b := api.Tree{Label: "a", Kids: long[1:2]}
	table := of(t, a, b)
	tells := func() {
		t.Helper()
		x, y := table.Nodes()
		first := []api.Node{{Label: "b", Parent: 2, Left: 0}, {Label: "c", Parent: 2, Left: 1}, {Label: "a", Parent: -1, Left: 0}}
		second := []api.Node{{Label: "c", Parent: 1, Left: 0}, {Label: "a", Parent: -1, Left: 0}}
		best := []api.Pair{{A: 1, B: 0}, {A: 2, B: 1}}
		if !slices.Equal(x, first) || !slices.Equal(y, second) || table.Cost() != 1 || table.Pair(1, 0) != 0 || table.Pair(0, 0) != 1 || !slices.Equal(table.Best(), best) {
			t.Errorf("Nodes %v, %v, Cost %d, Best %v", x, y, table.Cost(), table.Best())
		}
	}
	tells()
	if !tree.Same(a, read(t, "a(b c)")) || !tree.Same(b, read(t, "a(c)")) || !tree.Same(long[2], kept) || !tree.Same(none[0], kept) {
		t.Errorf("what was handed in was changed: %v, %v, %v, %v", a, b, long, none)
	}
	long[0], long[1] = kept, kept
	tells()
}

// TestEmptyLists: an empty list is the same as none.
func TestEmptyLists(t *testing.T) {
	empty := api.Tree{Label: "a", Kids: []api.Tree{{Label: "b", Kids: []api.Tree{}}}}
	x := of(t, empty, read(t, "a(b)"))
	if x.Cost() != 0 || x.Pair(0, 0) != 0 || len(x.Best()) != 2 {
		t.Errorf("Cost %d, Pair %d, Best %v", x.Cost(), x.Pair(0, 0), x.Best())
	}
	one := of(t, api.Tree{Label: "a", Kids: []api.Tree{}}, read(t, "a"))
	if one.Cost() != 0 || one.Pair(0, 0) != 0 || !slices.Equal(one.Best(), []api.Pair{{}}) {
		t.Errorf("Cost %d, Pair %d, Best %v", one.Cost(), one.Pair(0, 0), one.Best())
	}
}

// TestAgain: what was asked ahead changes no answer, and tables don't know of
// each other.
func TestAgain(t *testing.T) {
	r := rand.New(rand.NewSource(8))
	for range 30 {
		a, b := grown(r, 1+r.Intn(20), 2), grown(r, 1+r.Intn(20), 2)
		x, y := of(t, a, b), of(t, a, b)
		cost, best := y.Cost(), y.Best()
		of(t, b, a).Best()
		for range 3 {
			if !slices.Equal(x.Best(), best) || x.Cost() != cost {
				t.Errorf("%v and %v: Best %v, Cost %d, want %v, %d", a, b, x.Best(), x.Cost(), best, cost)
			}
		}
	}
}
