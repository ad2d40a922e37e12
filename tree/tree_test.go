package tree_test

import (
	"reflect"
	"slices"
	"strings"
	"testing"
	"time"
	"unsafe"

	"pleaching/api"
	"pleaching/tree"
)

// n: a node with that label and those kids. (A list of kids is not copied.)
func n(label string, kids ...api.Tree) api.Tree {
	return api.Tree{Label: label, Kids: kids}
}

// wide: a root and so many kids.
func wide(kids int) api.Tree {
	t := n("a")
	for range kids {
		t.Kids = append(t.Kids, n("b"))
	}
	return t
}

// chain: a node beneath so many others, the lowest with that label.
func chain(above int, label string) api.Tree {
	t := n(label)
	for range above {
		t = n("a", t)
	}
	return t
}

// sample: a tree with leaves and inner nodes, some labels more than once.
func sample() api.Tree {
	return n("a", n("b", n("c"), n("d")), n("e"), n("b", n("c", n("f"), n("gg")), n("abcdef")))
}

// loop: a tree whose nodes have no end: after lead nodes, each the only kid of
// the one ahead, round nodes come again and again; beside each stand kids
// ahead of and behind the one that goes on.
func loop(lead, round, ahead, behind int) api.Tree {
	lists := make([][]api.Tree, lead+round)
	for i := range lists {
		lists[i] = make([]api.Tree, ahead+1+behind)
		for j := range lists[i] {
			lists[i][j].Label = "a"
		}
	}
	for i := range lists {
		next := i + 1
		if next == len(lists) {
			next = lead
		}
		lists[i][ahead].Kids = lists[next]
	}
	return n("a", lists[0]...)
}

// ends fails the test if call takes far longer than it may.
func ends(t *testing.T, what string, call func()) {
	t.Helper()
	done := make(chan struct{})
	go func() {
		defer close(done)
		call()
	}()
	select {
	case <-done:
	case <-time.After(time.Minute):
		t.Fatalf("%s does not end", what)
	}
}

func TestLabel(t *testing.T) {
	most := strings.Repeat("z", api.MaxLabel)
	for _, s := range []string{"a", "z", "ab", "zz", "hello", "abcdef", most} {
		if !tree.Label(s) {
			t.Errorf("Label(%q) is false", s)
		}
	}
	wrong := []string{"", most + "z", strings.Repeat("a", 1000), "A", "aB", "Z", "`", "{", "a`", "{a", " ", "a ", " a", "a\n", "a0", "-", "a(b", "ä", "aä", "\x00", "a\x00", "\xff", "a\xffb"}
	for _, s := range wrong {
		if tree.Label(s) {
			t.Errorf("Label(%q) is true", s)
		}
	}
}

func TestLabelEachByte(t *testing.T) {
	for b := range 256 {
		want := 'a' <= b && b <= 'z'
		for _, s := range []string{string([]byte{byte(b)}), string([]byte{byte(b), 'a'}), string([]byte{'a', 'a', 'a', 'a', 'a', byte(b)})} {
			if got := tree.Label(s); got != want {
				t.Errorf("Label(%q) is %v", s, got)
			}
		}
	}
}

func TestCheck(t *testing.T) {
	full := chain(api.MaxDeep, "z")
	for range api.MaxNodes - api.MaxDeep - 1 {
		full.Kids = append(full.Kids, n("b"))
	}
	most := strings.Repeat("m", api.MaxLabel)
	for _, c := range []struct {
		what string
		t    api.Tree
		want int
	}{
		{"one node", n("a"), 0},
		{"a few nodes", sample(), 0},
		{"an empty list", n("a", []api.Tree{}...), 0},
		{"the longest label", n("a", n(most)), 0},

		{"MaxNodes nodes", wide(api.MaxNodes - 1), 0},
		{"one more", wide(api.MaxNodes), api.ErrMany},
		{"many more", wide(1000), api.ErrMany},
		{"MaxNodes in two branches", n("a", wide(18), wide(19)), 0},
		{"one more in two branches", n("a", wide(19), wide(19)), api.ErrMany},

		{"beneath MaxDeep others", chain(api.MaxDeep, "z"), 0},
		{"beneath one more", chain(api.MaxDeep+1, "z"), api.ErrDeep},
		{"beneath many more", chain(api.MaxNodes-1, "z"), api.ErrDeep},
		{"deep behind others", n("a", n("b"), chain(api.MaxDeep, "z"), n("b")), api.ErrDeep},
		{"deep as can be behind others", n("a", n("b"), chain(api.MaxDeep-1, "z"), n("b")), 0},
		{"deep and many as can be", full, 0},

		{"no tree at all", api.Tree{}, api.ErrName},
		{"the root's label", n("A", n("b")), api.ErrName},
		{"a kid's label", n("a", n("b"), n("")), api.ErrName},
		{"the first kid's label", n("a", n("b b"), n("b")), api.ErrName},
		{"a label far down", chain(api.MaxDeep, "z0"), api.ErrName},
		{"a label that is too long", n("a", n(most+"m")), api.ErrName},
	} {
		if got := tree.Check(c.t); got != c.want {
			t.Errorf("Check of %s: %d, want %d", c.what, got, c.want)
		}
	}
}

// TestCheckFirst: of more than one fault the first is told that the chapter
// names, wherever in the tree each stands.
func TestCheckFirst(t *testing.T) {
	many, deep := wide(api.MaxNodes), chain(api.MaxDeep, "z")
	for _, c := range []struct {
		what string
		t    api.Tree
		want int
	}{
		{"deep, then many", n("a", deep, many), api.ErrMany},
		{"many, then deep", n("a", many, deep), api.ErrMany},
		{"a name, then many", n("", many), api.ErrMany},
		{"many, then a name", n("a", many, n("")), api.ErrMany},
		{"a name, then deep", n("", deep), api.ErrDeep},
		{"deep, then a name", n("a", deep, n("")), api.ErrDeep},
		{"the name of the deep one", chain(api.MaxDeep+1, ""), api.ErrDeep},
		{"a name, deep, many", n("", deep, many), api.ErrMany},
		{"many, deep, a name", n("a", many, deep, n("")), api.ErrMany},
		{"many and deep in one chain", chain(api.MaxNodes, "z"), api.ErrMany},
		{"all in one chain", chain(api.MaxNodes, ""), api.ErrMany},
	} {
		if got := tree.Check(c.t); got != c.want {
			t.Errorf("Check of %s: %d, want %d", c.what, got, c.want)
		}
	}
}

func TestSize(t *testing.T) {
	for _, c := range []struct {
		what string
		t    api.Tree
		want int
	}{
		{"no tree at all", api.Tree{}, 1},
		{"one node", n("a"), 1},
		{"an empty list", n("a", []api.Tree{}...), 1},
		{"two nodes", n("a", n("b")), 2},
		{"a few nodes", sample(), 10},
		{"wrong labels", n("", n("B"), n("a", n("0"))), 4},
		{"MaxNodes nodes", wide(api.MaxNodes - 1), api.MaxNodes},
		{"more than MaxNodes", wide(1000), 1001},
		{"deeper than MaxDeep", chain(100, "z"), 101},
	} {
		if got := tree.Size(c.t); got != c.want {
			t.Errorf("Size of %s: %d, want %d", c.what, got, c.want)
		}
	}
}

func TestSame(t *testing.T) {
	for _, c := range []struct {
		what string
		a, b api.Tree
		want bool
	}{
		{"two of no tree", api.Tree{}, api.Tree{}, true},
		{"one node", n("a"), n("a"), true},
		{"another label", n("a"), n("b"), false},
		{"a longer label", n("a"), n("aa"), false},
		{"a few nodes", sample(), sample(), true},
		{"nil and empty", n("a"), n("a", []api.Tree{}...), true},
		{"nil and empty beneath", n("a", n("b")), n("a", n("b", []api.Tree{}...)), true},
		{"one has a kid", n("a"), n("a", n("b")), false},
		{"one has a kid more at the end", n("a", n("b")), n("a", n("b"), n("c")), false},
		{"kids in another order", n("a", n("b"), n("c")), n("a", n("c"), n("b")), false},
		{"a kid's label", n("a", n("b"), n("c")), n("a", n("b"), n("d")), false},
		{"a label far down", chain(9, "y"), chain(9, "z"), false},
		{"the same nodes, one beneath the other", n("a", n("b"), n("c")), n("a", n("b", n("c"))), false},
		{"a kid beneath another one", n("a", n("b", n("c")), n("b")), n("a", n("b"), n("b", n("c"))), false},
		{"another depth", chain(5, "z"), chain(6, "z"), false},
		{"wrong labels", n("A", n("")), n("A", n("")), true},
		{"other wrong labels", n("A", n("")), n("A", n("\x00")), false},
		{"too many nodes", wide(1000), wide(1000), true},
		{"too many nodes, and one more", wide(1000), wide(1001), false},
	} {
		if got := tree.Same(c.a, c.b); got != c.want {
			t.Errorf("Same of %s: %v", c.what, got)
		}
		if got := tree.Same(c.b, c.a); got != c.want {
			t.Errorf("Same of %s, the other way round: %v", c.what, got)
		}
	}
}

// TestSameShared: where lists lie, and what they share, tells nothing of what
// they are.
func TestSameShared(t *testing.T) {
	one := []api.Tree{n("b", n("x")), n("b", n("y"))}
	like := []api.Tree{n("b", n("x")), n("b", n("y"))}
	other := []api.Tree{n("b", n("x")), n("b", n("z"))}
	for _, c := range []struct {
		what string
		a, b []api.Tree
		want bool
	}{
		{"a list and itself", one, one, true},
		{"a list and one like it", one, like, true},
		{"a list and its beginning", one, one[:1], false},
		{"beginnings", one[:1], other[:1], true},
		{"one list against two others", []api.Tree{n("a", one...), n("a", one...)}, []api.Tree{n("a", like...), n("a", other...)}, false},
		{"one list against two like it", []api.Tree{n("a", one...), n("a", one...)}, []api.Tree{n("a", like...), n("a", one...)}, true},
		{"lists, then their beginnings", []api.Tree{n("a", one...), n("a", one[:1]...)}, []api.Tree{n("a", other...), n("a", other[:1]...)}, false},
		{"like lists, then their beginnings", []api.Tree{n("a", one...), n("a", one[:1]...)}, []api.Tree{n("a", like...), n("a", like[:1]...)}, true},
	} {
		x, y := slices.Clone(c.a), slices.Clone(c.b)
		slices.Reverse(x)
		slices.Reverse(y)
		got := []bool{
			tree.Same(n("r", c.a...), n("r", c.b...)), tree.Same(n("r", c.b...), n("r", c.a...)),
			tree.Same(n("r", x...), n("r", y...)), tree.Same(n("r", y...), n("r", x...)),
		}
		if slices.Contains(got, !c.want) {
			t.Errorf("Same of %s: %v", c.what, got)
		}
	}
}

// TestBeginningBeneath: beneath a list its own beginning may stand, and there
// is an end to that.
func TestBeginningBeneath(t *testing.T) {
	long := []api.Tree{n("b"), n("c"), n("d")}
	long[1].Kids, long[2].Kids = long[:1], long[:2]
	x := n("a", long...)
	want := n("a", n("b"), n("c", n("b")), n("d", n("b"), n("c", n("b"))))
	if tree.Check(x) != 0 || tree.Size(x) != 8 {
		t.Errorf("Check: %d, Size: %d", tree.Check(x), tree.Size(x))
	}
	if !tree.Same(x, want) || !tree.Same(tree.Own(x), want) {
		t.Errorf("Own: %v", tree.Own(x))
	}
}

func TestOwn(t *testing.T) {
	for _, x := range []api.Tree{{}, n("a"), sample(), wide(1000), chain(100, "z"), n("A", n("")), n("a", []api.Tree{}...)} {
		y := tree.Own(x)
		if !tree.Same(x, y) || tree.Size(x) != tree.Size(y) {
			t.Errorf("Own of %v: %v", x, y)
		}
	}
	if got := tree.Own(sample()); !reflect.DeepEqual(got, sample()) {
		t.Errorf("Own: %v", got)
	}
}

// spoil gives each node of a tree another label, and writes behind each list,
// as far as its memory goes.
func spoil(t *api.Tree) {
	t.Label = "spoilt"
	for i := range t.Kids {
		spoil(&t.Kids[i])
	}
	rest := t.Kids[len(t.Kids):cap(t.Kids)]
	for i := range rest {
		rest[i] = n("spoilt")
	}
}

// roomy: the sample, each list with memory behind it, in which kept stands;
// and those memories.
func roomy() (api.Tree, [][]api.Tree) {
	var all [][]api.Tree
	var give func(t api.Tree) api.Tree
	give = func(t api.Tree) api.Tree {
		kids := make([]api.Tree, 0, len(t.Kids)+2)
		for _, k := range t.Kids {
			kids = append(kids, give(k))
		}
		all = append(all, append(kids, n("kept"), n("kept", n("kept"))))
		return n(t.Label, kids...)
	}
	return give(sample()), all
}

// unspoilt fails the test unless that tree of roomy is as it was made.
func unspoilt(t *testing.T, what string, x api.Tree, all [][]api.Tree) {
	t.Helper()
	if !tree.Same(x, sample()) {
		t.Errorf("%s changed what was handed in: %v", what, x)
	}
	for _, long := range all {
		rest := long[len(long)-2:]
		if !tree.Same(n("r", rest...), n("r", n("kept"), n("kept", n("kept")))) {
			t.Errorf("%s wrote behind a list: %v", what, rest)
		}
	}
}

func TestOwnIsNewMemory(t *testing.T) {
	x, all := roomy()
	y := tree.Own(x)
	unspoilt(t, "Own", x, all)
	spoil(&y)
	unspoilt(t, "what was done to the answer of Own", x, all)

	x, _ = roomy()
	y = tree.Own(x)
	spoil(&x)
	if !tree.Same(y, sample()) {
		t.Errorf("what was done to the argument changed the answer of Own: %v", y)
	}
}

// TestOwnListsShareNone: lists that share memory in what comes in don't do so
// in the answer.
func TestOwnListsShareNone(t *testing.T) {
	kids := []api.Tree{n("b", n("c")), n("d")}
	y := tree.Own(n("a", n("x", kids...), n("y", kids...), n("z", kids[:1]...)))
	spoil(&y.Kids[0])
	if !tree.Same(n("a", y.Kids[1:]...), n("a", n("y", n("b", n("c")), n("d")), n("z", n("b", n("c"))))) {
		t.Errorf("lists of one answer share memory: %v", y)
	}
	y = tree.Own(sample())
	for i := range y.Kids {
		y.Kids[i].Kids = append(y.Kids[i].Kids, n("new"))
	}
	want := n("a", n("b", n("c"), n("d"), n("new")), n("e", n("new")), n("b", n("c", n("f"), n("gg")), n("abcdef"), n("new")))
	if !tree.Same(y, want) {
		t.Errorf("what came behind one list stands in another one: %v", y)
	}
}

func TestOwnLabels(t *testing.T) {
	x := n(strings.Repeat("a", 3), n(strings.Repeat("b", 3)))
	y := tree.Own(x)
	if unsafe.StringData(x.Label) == unsafe.StringData(y.Label) || unsafe.StringData(x.Kids[0].Label) == unsafe.StringData(y.Kids[0].Label) {
		t.Error("a label of the answer lies where the argument's lies")
	}
}

func TestAt(t *testing.T) {
	for _, c := range []struct {
		path []int
		want api.Tree
	}{
		{nil, sample()},
		{[]int{}, sample()},
		{[]int{0}, n("b", n("c"), n("d"))},
		{[]int{0, 0}, n("c")},
		{[]int{0, 1}, n("d")},
		{[]int{1}, n("e")},
		{[]int{2}, n("b", n("c", n("f"), n("gg")), n("abcdef"))},
		{[]int{2, 0}, n("c", n("f"), n("gg"))},
		{[]int{2, 0, 1}, n("gg")},
		{[]int{2, 1}, n("abcdef")},
	} {
		if got, ok := tree.At(sample(), c.path); !ok || !tree.Same(got, c.want) {
			t.Errorf("At %v: %v, %v", c.path, got, ok)
		}
	}
	if got, ok := tree.At(api.Tree{}, nil); !ok || !tree.Same(got, api.Tree{}) {
		t.Errorf("At the root of no tree at all: %v, %v", got, ok)
	}
	if got, ok := tree.At(chain(100, "z"), make([]int, 100)); !ok || !tree.Same(got, n("z")) {
		t.Errorf("At the end of a chain: %v, %v", got, ok)
	}
	if got, ok := tree.At(wide(1000), []int{999}); !ok || !tree.Same(got, n("b")) {
		t.Errorf("At the last of many: %v, %v", got, ok)
	}
}

func TestAtNone(t *testing.T) {
	const big = int(^uint(0) >> 1)
	for _, path := range [][]int{{3}, {-1}, {big}, {-big - 1}, {1 << 32}, {0, 2}, {0, -1}, {1, 0}, {1, -1}, {0, 0, 0}, {2, 0, 2}, {2, 0, 1, 0}, {-1, 0}, {3, 0}, {0, -1, 0}, make([]int, 1000)} {
		if got, ok := tree.At(sample(), path); ok || got.Label != "" || len(got.Kids) != 0 {
			t.Errorf("At %v: %v, %v", path, got, ok)
		}
	}
	if got, ok := tree.At(api.Tree{}, []int{0}); ok || got.Label != "" || len(got.Kids) != 0 {
		t.Errorf("At a kid of no tree at all: %v, %v", got, ok)
	}
}

// TestAtBehindLength: what lies behind a list's length is no kid.
func TestAtBehindLength(t *testing.T) {
	x, all := roomy()
	for _, path := range [][]int{{3}, {0, 2}, {1, 0}, {2, 0, 2}} {
		if got, ok := tree.At(x, path); ok {
			t.Errorf("At %v: %v", path, got)
		}
	}
	if tree.Size(x) != 10 || tree.Check(x) != 0 || !tree.Same(x, sample()) {
		t.Error("what lies behind a list's length was read")
	}
	unspoilt(t, "Size, Check, Same or At", x, all)
}

func TestAtIsNewMemory(t *testing.T) {
	for _, path := range [][]int{nil, {0}, {1}, {2}, {2, 0}, {2, 0, 0}} {
		x, all := roomy()
		kept := slices.Clone(path)
		y, _ := tree.At(x, path)
		spoil(&y)
		unspoilt(t, "what was done to the answer of At", x, all)
		if !slices.Equal(path, kept) {
			t.Errorf("At changed the path %v to %v", kept, path)
		}
		y, _ = tree.At(x, path)
		want, _ := tree.At(sample(), path)
		spoil(&x)
		if !tree.Same(y, want) {
			t.Errorf("what was done to the argument changed the answer of At %v: %v", path, y)
		}
	}
}

// TestDeep: a tree may be far deeper than MaxDeep, and every call still ends.
func TestDeep(t *testing.T) {
	const above = 1000000
	a, b := chain(above, "z"), chain(above, "y")
	if got := tree.Check(a); got != api.ErrMany {
		t.Errorf("Check: %d", got)
	}
	if got := tree.Size(a); got != above+1 {
		t.Errorf("Size: %d", got)
	}
	if tree.Same(a, b) {
		t.Error("Same, of others")
	}
	if !tree.Same(a, tree.Own(a)) {
		t.Error("Own is not the same")
	}
	if got, ok := tree.At(a, make([]int, above)); !ok || got.Label != "z" {
		t.Errorf("At: %v, %v", got, ok)
	}
}

// TestManyTimesShared: a list that stands in a tree many times is told of each
// time; Check does not go through all of it.
func TestManyTimesShared(t *testing.T) {
	double := func(levels int) api.Tree {
		x := n("a")
		for range levels {
			x = n("a", x, x)
		}
		return x
	}
	if got := tree.Size(double(16)); got != 1<<17-1 {
		t.Errorf("Size: %d", got)
	}
	if got := tree.Own(double(10)); !tree.Same(got, double(10)) {
		t.Error("Own is not the same")
	}
	ends(t, "Check", func() {
		if got := tree.Check(double(60)); got != api.ErrMany {
			t.Errorf("Check: %d", got)
		}
	})
	ends(t, "Same", func() {
		if !tree.Same(double(60), double(60)) || tree.Same(double(60), double(61)) {
			t.Error("Same")
		}
	})
}

// TestLoops: kids that lead back to themselves have no end, but the calls do.
func TestLoops(t *testing.T) {
	for _, lead := range []int{0, 1, 5, 50} {
		for _, round := range []int{1, 2, 3, 7, 64} {
			for _, beside := range []int{0, 1, 3} {
				tryLoop(t, loop(lead, round, beside, 0))
				tryLoop(t, loop(lead, round, 0, beside))
				tryLoop(t, loop(lead, round, beside, beside))
			}
		}
	}
	both := loop(0, 1, 1, 0)
	both.Kids[0].Kids = both.Kids
	tryLoop(t, both)
}

func tryLoop(t *testing.T, x api.Tree) {
	t.Helper()
	ends(t, "Check", func() {
		if got := tree.Check(x); got != api.ErrMany {
			t.Errorf("Check: %d", got)
		}
	})
	ends(t, "Size", func() {
		if got := tree.Size(x); got <= api.MaxNodes {
			t.Errorf("Size: %d", got)
		}
	})
	ends(t, "Own", func() { tree.Own(x) })
	ends(t, "At", func() { tree.At(x, []int{0}) })
	ends(t, "Same", func() {
		if !tree.Same(x, x) || tree.Same(x, n("a", n("b"))) {
			t.Error("Same of a loop")
		}
	})
}

// TestLoopsSame: loops are the same if what they stand for is, however long
// their rounds are.
func TestLoopsSame(t *testing.T) {
	ends(t, "Same", func() {
		if !tree.Same(loop(0, 2, 1, 1), loop(3, 3, 1, 1)) {
			t.Error("two that stand for the same")
		}
		if tree.Same(loop(0, 2, 1, 1), loop(0, 2, 1, 2)) || tree.Same(loop(0, 2, 1, 0), loop(0, 2, 0, 1)) {
			t.Error("two that don't")
		}
	})
}
