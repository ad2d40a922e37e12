package deed_test

import (
	"testing"

	"pleaching/api"
	"pleaching/deed"
	"pleaching/tree"
)

// line of a second reckoning: a tree is a list of its nodes, each ahead of all
// beneath it, from the left, with how many stand above it. So a deed moves no
// kids: it puts a line in, takes one away, and lifts or lowers others.
type line struct {
	above int
	label string
}

func lines(t api.Tree, above int) []line {
	l := []line{{above, t.Label}}
	for _, kid := range t.Kids {
		l = append(l, lines(kid, above+1)...)
	}
	return l
}

// end: the first line behind one that does not stand beneath it.
func end(l []line, i int) int {
	j := i + 1
	for j < len(l) && l[j].above > l[i].above {
		j++
	}
	return j
}

// starts: the lines of a node's kids, and, behind them, its end.
func starts(l []line, i int) []int {
	var at []int
	for j := i + 1; j < end(l, i); j++ {
		if l[j].above == l[i].above+1 {
			at = append(at, j)
		}
	}
	return append(at, end(l, i))
}

// find: the line of the node at a path; -1: there is none.
func find(l []line, path []int) int {
	i := 0
	for _, kid := range path {
		at := starts(l, i)
		if kid < 0 || kid >= len(at)-1 {
			return -1
		}
		i = at[kid]
	}
	return i
}

// moved: these lines, those from one on to another so much lower.
func moved(l []line, from, to, lower int) []line {
	m := append([]line{}, l...)
	for i := from; i < to; i++ {
		m[i].above += lower
	}
	return m
}

// wrong: the codes of point 1 that are so, in the chapter's order.
func wrong(d api.Deed) []int {
	var codes []int
	add := func(so bool, code int) {
		if so {
			codes = append(codes, code)
		}
	}
	negative := d.At < 0 || d.Many < 0
	for _, kid := range d.Path {
		negative = negative || kid < 0
	}
	insert, remove := d.Kind == api.DInsert, d.Kind == api.DDelete
	add(d.Kind < api.DName || d.Kind > api.DInsert, api.ErrKind)
	add((d.At != 0 || d.Many != 0) && !insert || len(d.Label) > 0 && remove, api.ErrForm)
	add(negative, api.ErrRange)
	add(!tree.Label(d.Label) && !remove, api.ErrName)
	add(remove && len(d.Path) == 0, api.ErrRoot)
	return codes
}

// over: what is wrong with lines of a tree: too many, too deep.
func over(l []line) int {
	if len(l) > api.MaxNodes {
		return api.ErrMany
	}
	for _, x := range l {
		if x.above > api.MaxDeep {
			return api.ErrDeep
		}
	}
	return 0
}

// reckon: a deed done to the lines of a tree, and what undoes it, by the
// chapter's words.
func reckon(l []line, d api.Deed) ([]line, api.Deed, int) {
	if codes := wrong(d); len(codes) > 0 {
		return nil, api.Deed{}, codes[0]
	}
	i := find(l, d.Path)
	if i < 0 {
		return nil, api.Deed{}, api.ErrNone
	}
	switch at := starts(l, i); d.Kind {
	case api.DName:
		m := moved(l, 0, 0, 0)
		m[i].label = d.Label
		return m, api.Deed{Kind: api.DName, Path: d.Path, Label: l[i].label}, 0
	case api.DDelete:
		m := moved(l, i, end(l, i), -1)
		last := len(d.Path) - 1
		back := api.Deed{Kind: api.DInsert, Path: d.Path[:last], At: d.Path[last], Many: len(at) - 1, Label: l[i].label}
		return append(m[:i], m[i+1:]...), back, 0
	default:
		kids := uint64(len(at) - 1) // the sum of two ints that are not below 0 is one, too
		if kids < uint64(d.At) || kids < uint64(d.At)+uint64(d.Many) {
			return nil, api.Deed{}, api.ErrRange
		}
		from, to := at[d.At], at[d.At+d.Many]
		m := moved(l, from, to, 1)
		m = append(m[:from:from], append([]line{{l[i].above + 1, d.Label}}, m[from:]...)...)
		back := api.Deed{Kind: api.DDelete, Path: append(append([]int{}, d.Path...), d.At)}
		if code := over(m); code != 0 {
			return nil, api.Deed{}, code
		}
		return m, back, 0
	}
}

// compare holds what Do answers of a tree against the second reckoning.
func compare(t *testing.T, x api.Tree, d api.Deed) {
	t.Helper()
	want, undo, code := reckon(lines(x, 0), d)
	if code != 0 {
		fails(t, "what is reckoned a second time", x, d, code)
		return
	}
	y, back, got := deed.Do(x, d)
	if got != 0 || !deed.Same(back, undo) {
		t.Errorf("Do(%v, %v): %v, %v, %d, want undone by %v", x, d, y, back, got, undo)
		return
	}
	if !sameLines(lines(y, 0), want) {
		t.Errorf("Do(%v, %v): %v, want %v", x, d, y, want)
	}
	undone(t, x, d)
}

func sameLines(a, b []line) bool {
	if len(a) != len(b) {
		return false
	}
	for i := range a {
		if a[i] != b[i] {
			return false
		}
	}
	return true
}

// woods: all lists of trees with so many nodes in all, without labels.
func woods(nodes int) [][]api.Tree {
	if nodes == 0 {
		return [][]api.Tree{nil}
	}
	var all [][]api.Tree
	for beneath := range nodes {
		for _, kids := range woods(beneath) {
			for _, rest := range woods(nodes - 1 - beneath) {
				all = append(all, append([]api.Tree{n("", kids...)}, rest...))
			}
		}
	}
	return all
}

// labelled: a tree like that, its nodes with one letter each, all others.
func labelled(t api.Tree, next *byte) api.Tree {
	own := n(string([]byte{*next}))
	*next++
	for _, kid := range t.Kids {
		own.Kids = append(own.Kids, labelled(kid, next))
	}
	return own
}

// trees: all trees with so many nodes.
func trees(nodes int) []api.Tree {
	var all []api.Tree
	for _, kids := range woods(nodes - 1) {
		next := byte('a')
		all = append(all, labelled(n("", kids...), &next))
	}
	return all
}

// paths: those of all nodes of a tree.
func paths(t api.Tree) [][]int {
	all := [][]int{nil}
	for i, kid := range t.Kids {
		for _, path := range paths(kid) {
			all = append(all, append([]int{i}, path...))
		}
	}
	return all
}

// further: a path, and a kid.
func further(path []int, kid int) []int {
	return append(append([]int{}, path...), kid)
}

// TestAllDeeds: all trees with up to 5 nodes, and all deeds to them: each kind
// and one beside, each node, and those just beside each, At and Many from just
// below 0 on to beyond the kids, and labels that are none, too.
func TestAllDeeds(t *testing.T) {
	for nodes := 1; nodes <= 5; nodes++ {
		for _, x := range trees(nodes) {
			for _, path := range paths(x) {
				at, _ := tree.At(x, path)
				kids := len(at.Kids)
				for _, p := range [][]int{path, further(path, kids), further(path, -1)} {
					allKinds(t, x, p, kids)
				}
			}
		}
	}
}

func allKinds(t *testing.T, x api.Tree, path []int, kids int) {
	t.Helper()
	for kind := api.DName - 1; kind <= api.DInsert+1; kind++ {
		for at := -1; at <= kids+1; at++ {
			for many := -1; many <= kids+1; many++ {
				for _, label := range []string{"", "x", "a", "abcdef", "abcdefg"} {
					d := api.Deed{Kind: kind, Path: path, At: at, Many: many, Label: label}
					if codes := append(wrong(d), 0); deed.Check(d) != codes[0] {
						t.Errorf("Check(%v): %d, want %d", d, deed.Check(d), codes[0])
					}
					compare(t, x, d)
				}
			}
		}
	}
}

// allThatDo: each deed at each node of a tree, at each place, At and Many up to
// one beyond.
func allThatDo(t *testing.T, x api.Tree) {
	t.Helper()
	for _, path := range paths(x) {
		compare(t, x, named("new", path...))
		compare(t, x, deleted(path...))
		at, _ := tree.At(x, path)
		for from := range len(at.Kids) + 2 {
			for many := range len(at.Kids) - from + 2 {
				compare(t, x, inserted("new", from, many, path...))
			}
		}
	}
}

// grown: a tree of so many nodes: the next one stands beneath the last of those
// ahead whose numbers a rule by that seed tells, if it isn't too deep.
func grown(nodes, seed int) api.Tree {
	parents, deep := []int{-1}, []int{0}
	for i := 1; i < nodes; i++ {
		above := (i*i*7 + i*seed*13 + seed) % i
		for deep[above] == api.MaxDeep {
			above = parents[above]
		}
		parents, deep = append(parents, above), append(deep, deep[above]+1)
	}
	var made func(i int) api.Tree
	made = func(i int) api.Tree {
		t := n(string([]byte{byte('a' + i%26), byte('a' + i/26)}))
		for kid := i + 1; kid < nodes; kid++ {
			if parents[kid] == i {
				t.Kids = append(t.Kids, made(kid))
			}
		}
		return t
	}
	return made(0)
}

// TestGreatTrees: trees about as great and as deep as may be, and all deeds to
// them, held against the second reckoning.
func TestGreatTrees(t *testing.T) {
	for _, nodes := range []int{6, 11, 25, api.MaxNodes - 1, api.MaxNodes} {
		for seed := range 12 {
			allThatDo(t, grown(nodes, seed))
		}
	}
	for _, x := range []api.Tree{wide(api.MaxNodes - 2), wide(api.MaxNodes - 1), chain(api.MaxDeep - 1), chain(api.MaxDeep), full()} {
		allThatDo(t, x)
	}
	short := full()
	short.Kids = short.Kids[:len(short.Kids)-1]
	allThatDo(t, short)
}
