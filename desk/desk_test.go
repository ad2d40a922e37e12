package desk_test

import (
	"fmt"
	"slices"
	"strings"
	"testing"

	"pleaching/api"
	"pleaching/desk"
)

func fault(code, at int) api.Fault { return api.Fault{Code: code, At: at} }

// told: a line, and what it must tell, without the last newline; no text: it
// tells nothing.
type told struct{ line, want string }

// ended: things told, the last one ended, too.
func ended(s string) string {
	if s == "" {
		return ""
	}
	return s + "\n"
}

// parted: the lines, and all that they must tell.
func parted(l []told) ([]string, string) {
	var lines []string
	all := ""
	for _, c := range l {
		lines, all = append(lines, c.line), all+ended(c.want)
	}
	return lines, all
}

// tells: do these lines, one behind the other at a new desk, tell that: each in
// a Do of its own, all in one Do, and in two, cut anywhere?
func tells(t *testing.T, what string, l ...told) {
	t.Helper()
	b := newBoth()
	for i, c := range l {
		if got := b.do(t, c.line); got != ended(c.want) {
			t.Errorf("%s: line %d, %.100q: %q, want %q", what, i, c.line, got, ended(c.want))
		}
	}
	lines, want := parted(l)
	if len(lines) <= api.MaxLines {
		tellsCut(t, what, lines, want)
	}
}

// tellsCut: do these lines tell that, in one Do, and in two, cut anywhere?
func tellsCut(t *testing.T, what string, lines []string, want string) {
	t.Helper()
	for cut := range len(lines) + 1 {
		d := desk.New()
		first, f := d.Do(lines[:cut])
		second, g := d.Do(lines[cut:])
		if first+second != want || f != fault(0, 0) || g != fault(0, 0) {
			t.Fatalf("%s: cut at %d of %d: %.2000q, %v, %.2000q, %v, want %.2000q", what, cut, len(lines), first, f, second, g, want)
		}
	}
}

// TestLines: the lines of the chapter's table, one behind the other.
func TestLines(t *testing.T) {
	tells(t, "all lines",
		told{"many", "many 0 0"},
		told{"tree a(b(c) d)", "kept 0"},
		told{"many", "many 1 0"},
		told{"do 0 delete 0", "kept 1"},
		told{"do 1 insert - 1 1 e", "kept 2"},
		told{"show 0", "tree a(b(c) d)"},
		told{"show 1", "tree a(c d)"},
		told{"show 2", "tree a(c e(d))"},
		told{"diff 0 2", "cost 2\ndelete 0\ninsert - 1 1 e\nend"},
		told{"diff 2 0", "cost 2\ndelete 1\ninsert - 0 1 b\nend"},
		told{"step 1", "delete 0\nend"},
		told{"step 2", "insert - 1 1 e\nend"},
		told{"blame 0", "since 0 0 0 0"},
		told{"blame 1", "since 0 0 0"},
		told{"blame 2", "since 0 0 2 0"},
		told{"many", "many 3 2"},
		told{"merge 1 0 2", "kept 3"},
		told{"show 3", "tree a(b(c) e(d))"},
		told{"step 3", "insert - 0 1 b\nend"},
		told{"blame 3", "since 0 3 0 2 0"},
		told{"do 1 name 0 x", "kept 4"},
		told{"do 1 name 0 y", "kept 5"},
		told{"merge 1 4 5", "clash 0"},
		told{"many", "many 6 7"},
	)
	tells(t, "the document's examples",
		told{"tree a(b(c) d)", "kept 0"},
		told{"tree a(c e(d))", "kept 1"},
		told{"diff 0 1", "cost 2\ndelete 0\ninsert - 1 1 e\nend"},
		told{"blame 1", "since 0 0 1 0"},
		told{"tree a(b c)", "kept 2"},
		told{"tree a(x b c)", "kept 3"},
		told{"tree a(b c y)", "kept 4"},
		told{"merge 2 3 4", "kept 5"},
		told{"show 5", "tree a(x b c y)"},
		told{"tree a(b(p))", "kept 6"},
		told{"tree a(x(p))", "kept 7"},
		told{"tree a(y(p))", "kept 8"},
		told{"merge 6 7 8", "clash 0"},
		told{"show 8", "tree a(y(p))"},
		told{"show 9", "no 7"},
	)
}

// TestEachAlone: each line at a desk without trees.
func TestEachAlone(t *testing.T) {
	for line, want := range map[string]string{
		"":                "",
		"tree":            "no 5 0",
		"tree a":          "kept 0",
		"tree a(b c(d))":  "kept 0",
		"do 0 name - a":   "no 7",
		"do 0 delete 0":   "no 7",
		"do 0 delete -":   "no 8",
		"do 0 name - A":   "no 1",
		"do 0 x":          "no 6",
		"show 0":          "no 7",
		"diff 0 0":        "no 7",
		"step 0":          "no 7",
		"blame 0":         "no 7",
		"merge 0 0 0":     "no 7",
		"many":            "many 0 0",
		"what":            "what",
		"x":               "what",
		"tree a(b c(d)))": "no 6 9",
	} {
		tells(t, "alone", told{line, want})
	}
}

// TestTree: trees that are kept, however they are written.
func TestTree(t *testing.T) {
	wide := "a(b" + strings.Repeat(" b", api.MaxNodes-2) + ")"
	deep := strings.Repeat("a(", api.MaxDeep) + "z" + strings.Repeat(")", api.MaxDeep)
	long := strings.Repeat("a", api.MaxLabel)
	tells(t, "trees",
		told{"tree a", "kept 0"},
		told{"tree  a", "kept 1"},
		told{"tree a ", "kept 2"},
		told{"tree    a  (  b  c(d)e )   ", "kept 3"},
		told{"tree tree", "kept 4"},
		told{"tree do(tree(show diff) what)", "kept 5"},
		told{"tree " + long, "kept 6"},
		told{"tree " + wide, "kept 7"},
		told{"tree " + deep, "kept 8"},
		told{"tree a" + strings.Repeat(" ", api.MaxText-1), "kept 9"},
		told{"tree " + strings.Repeat(" ", api.MaxText-1) + "b", "kept 10"},
		told{"show 0", "tree a"},
		told{"show 1", "tree a"},
		told{"show 2", "tree a"},
		told{"show 3", "tree a(b c(d) e)"},
		told{"show 4", "tree tree"},
		told{"show 5", "tree do(tree(show diff) what)"},
		told{"show 6", "tree " + long},
		told{"show 7", "tree " + wide},
		told{"show 8", "tree " + deep},
		told{"show 9", "tree a"},
		told{"show 10", "tree b"},
	)
}

// TestTreeFaults: texts that are no trees, of each fault of text.Parse, with its
// place; none of them is kept.
func TestTreeFaults(t *testing.T) {
	tells(t, "no trees",
		told{"tree", "no 5 0"},
		told{"tree ", "no 5 0"},
		told{"tree  ", "no 5 1"},
		told{"tree     ", "no 5 4"},
		told{"tree a(", "no 5 2"},
		told{"tree a( ", "no 5 3"},
		told{"tree a(b", "no 5 3"},
		told{"tree a(b c ", "no 5 6"},
		told{"tree A", "no 4 0"},
		told{"tree 0", "no 4 0"},
		told{"tree (a)", "no 4 0"},
		told{"tree  (a)", "no 4 1"},
		told{"tree a()", "no 4 2"},
		told{"tree a(b,c)", "no 4 3"},
		told{"tree a(b\tc)", "no 4 3"},
		told{"tree \ta", "no 4 0"},
		told{"tree \x00", "no 4 0"},
		told{"tree \xff", "no 4 0"},
		told{"tree a b", "no 6 2"},
		told{"tree a)", "no 6 1"},
		told{"tree a\t", "no 6 1"},
		told{"tree a(b)c", "no 6 4"},
		told{"tree aB", "no 6 1"},
		told{"tree " + strings.Repeat("a(", api.MaxDeep+1) + "z", fmt.Sprint("no 3 ", 2*(api.MaxDeep+1))},
		told{"tree " + strings.Repeat("a(", api.MaxDeep+1) + "  ?", fmt.Sprint("no 3 ", 2*(api.MaxDeep+1))},
		told{"tree abcdefg", "no 1 -1"},
		told{"tree a(b abcdefg)", "no 1 -1"},
		told{"tree a(b" + strings.Repeat(" b", api.MaxNodes-1) + ")", "no 2 -1"},
		told{"tree a" + strings.Repeat(" ", api.MaxText), "no 2 -1"},
		told{"tree ?" + strings.Repeat(" ", api.MaxText), "no 2 -1"},
		told{"many", "many 0 0"},
		told{"tree a", "kept 0"},
		told{"tree a(", "no 5 2"},
		told{"tree b", "kept 1"},
		told{"many", "many 2 1"},
	)
}

// TestDo: deeds of each kind, done to the first tree, the last one, and others,
// all of which stay.
func TestDo(t *testing.T) {
	tells(t, "deeds",
		told{"tree a(b c)", "kept 0"},
		told{"do 0 name - q", "kept 1"},
		told{"do 0 name 1 xyz", "kept 2"},
		told{"do 0 delete 0", "kept 3"},
		told{"do 2 insert - 0 2 p", "kept 4"},
		told{"do 4 insert 0.1 0 0 r", "kept 5"},
		told{"do 5 delete 0", "kept 6"},
		told{"do 0 name - a", "kept 7"},
		told{"show 0", "tree a(b c)"},
		told{"show 1", "tree q(b c)"},
		told{"show 2", "tree a(b xyz)"},
		told{"show 3", "tree a(c)"},
		told{"show 4", "tree a(p(b xyz))"},
		told{"show 5", "tree a(p(b xyz(r)))"},
		told{"show 6", "tree a(b xyz(r))"},
		told{"show 7", "tree a(b c)"},
		told{"diff 0 7", "cost 0\nend"},
		told{"many", "many 8 12"},
	)
}

// TestDoForms: one blank each; what is no number, or has no line behind it, is
// none of the lines, and all behind the second blank is the line.
func TestDoForms(t *testing.T) {
	tells(t, "forms of do",
		told{"tree a(b c)", "kept 0"},
		told{"do", "what"},
		told{"do ", "what"},
		told{"do  ", "what"},
		told{"do 0", "what"},
		told{"do name - x", "what"},
		told{"do x name - x", "what"},
		told{"do  0 name - x", "what"},
		told{" do 0 name - x", "what"},
		told{"  do 0 name - x", "what"},
		told{"do0 name - x", "what"},
		told{"do 0name - x", "what"},
		told{"DO 0 name - x", "what"},
		told{"do, 0 name - x", "what"},
		told{"do 0 ", "no 6"},
		told{"do 0  ", "no 6"},
		told{"do 0  name - x", "no 6"},
		told{"do 0 name  - x", "no 6"},
		told{"do 0 name -  x", "no 6"},
		told{"do 0 name - x ", "no 6"},
		told{"do 0 0 name - x", "no 6"},
		told{"do 0 do 0 name - x", "no 6"},
		told{"do 0 delete 0 ", "no 6"},
		told{"do 0 delete 0", "kept 1"},
		told{"many", "many 2 1"},
	)
}

// TestDoFaults: lines that are no deeds, of each code of patch.Deed, ahead of
// trees that are not there; and deeds that can't be done, of each code.
func TestDoFaults(t *testing.T) {
	wide := "a(b" + strings.Repeat(" b", api.MaxNodes-2) + ")"
	deep := strings.Repeat("a(", api.MaxDeep) + "z" + strings.Repeat(")", api.MaxDeep)
	tells(t, "no deeds",
		told{"tree a(b c)", "kept 0"},
		told{"tree " + wide, "kept 1"},
		told{"tree " + deep, "kept 2"},
		told{"do 0 delete", "no 6"},
		told{"do 0 rename - x", "no 6"},
		told{"do 0 name 01 x", "no 6"},
		told{"do 0 name 1000 x", "no 6"},
		told{"do 0 insert - 0 x", "no 6"},
		told{"do 0 insert - 0 1000 x", "no 6"},
		told{"do 0 insert - -1 0 x", "no 6"},
		told{"do 0 name - X", "no 1"},
		told{"do 0 name - abcdefg", "no 1"},
		told{"do 0 name - ", "no 1"},
		told{"do 0 insert - 0 0 x1", "no 1"},
		told{"do 0 delete -", "no 8"},
		told{"do 3 delete", "no 6"},
		told{"do 3 name - X", "no 1"},
		told{"do -1 delete -", "no 8"},
		told{"do 3 name - x", "no 7"},
		told{"do -1 name - x", "no 7"},
		told{"do 3 delete 5", "no 7"},
		told{"do 3 insert - 9 9 x", "no 7"},
		told{"do 0 name 2 x", "no 7"},
		told{"do 0 name 0.0 x", "no 7"},
		told{"do 0 delete 5", "no 7"},
		told{"do 0 insert 2 0 0 x", "no 7"},
		told{"do 0 insert - 3 0 x", "no 9"},
		told{"do 0 insert - 0 3 x", "no 9"},
		told{"do 0 insert - 999 999 x", "no 9"},
		told{"do 1 insert - 0 0 x", "no 2"},
		told{"do 2 insert - 0 1 x", "no 3"},
		told{"many", "many 3 " + fmt.Sprint(diffs("a(b c)", wide, deep))},
		told{"do 0 delete 1", "kept 3"},
		told{"show 3", "tree a(b)"},
	)
}

// diffs: how many deeds make each of these trees the next one.
func diffs(texts ...string) int {
	g := &ledger{}
	for _, s := range texts {
		g.tree(s)
	}
	deeds := 0
	fmt.Sscanf(g.many(nil)[0], fmt.Sprintf("many %d %%d", len(texts)), &deeds)
	return deeds
}

// TestDiff: without deeds, with one, and with several, from each tree to each.
func TestDiff(t *testing.T) {
	tells(t, "diffs",
		told{"tree a", "kept 0"},
		told{"tree b", "kept 1"},
		told{"tree a(b(c) d)", "kept 2"},
		told{"tree q(c e(d) f)", "kept 3"},
		told{"tree a", "kept 4"},
		told{"diff 0 0", "cost 0\nend"},
		told{"diff 0 4", "cost 0\nend"},
		told{"diff 4 0", "cost 0\nend"},
		told{"diff 3 3", "cost 0\nend"},
		told{"diff 0 1", "cost 1\nname - b\nend"},
		told{"diff 1 0", "cost 1\nname - a\nend"},
		told{"diff 2 3", "cost 4\ndelete 0\nname - q\ninsert - 2 0 f\ninsert - 1 1 e\nend"},
		told{"diff 3 2", "cost 4\ndelete 1\ndelete 2\nname - a\ninsert - 0 1 b\nend"},
		told{"diff 2 4", "cost 3\ndelete 0.0\ndelete 0\ndelete 0\nend"},
		told{"diff 0 5", "no 7"},
		told{"diff 5 0", "no 7"},
		told{"diff 5 5", "no 7"},
		told{"diff -1 0", "no 7"},
		told{"diff 0 -1", "no 7"},
		told{"many", "many 5 14"},
	)
}

// TestStep: the first tree, which has none; steps without deeds, with one, and
// with several.
func TestStep(t *testing.T) {
	tells(t, "steps",
		told{"step 0", "no 7"},
		told{"tree a(b c)", "kept 0"},
		told{"step 0", "no 7"},
		told{"step 1", "no 7"},
		told{"tree a(b c)", "kept 1"},
		told{"step 1", "end"},
		told{"tree a(b)", "kept 2"},
		told{"step 2", "delete 1\nend"},
		told{"tree q(b(d))", "kept 3"},
		told{"step 3", "name - q\ninsert 0 0 0 d\nend"},
		told{"step 2", "delete 1\nend"},
		told{"step 1", "end"},
		told{"step 0", "no 7"},
		told{"step 4", "no 7"},
		told{"step -1", "no 7"},
	)
}

// TestBlame: nodes that stay, get other labels, go, come, and come again.
func TestBlame(t *testing.T) {
	tells(t, "blames",
		told{"blame 0", "no 7"},
		told{"tree a(b c)", "kept 0"},
		told{"blame 0", "since 0 0 0"},
		told{"do 0 name 0 x", "kept 1"},
		told{"blame 1", "since 0 0 0"},
		told{"do 1 insert - 0 1 y", "kept 2"},
		told{"blame 2", "since 0 2 0 0"},
		told{"do 2 delete 1", "kept 3"},
		told{"blame 3", "since 0 2 0"},
		told{"do 3 insert - 1 0 c", "kept 4"},
		told{"blame 4", "since 0 2 4 0"},
		told{"tree a", "kept 5"},
		told{"blame 5", "since 0"},
		told{"blame 4", "since 0 2 4 0"},
		told{"blame 0", "since 0 0 0"},
		told{"blame 6", "no 7"},
		told{"blame -1", "no 7"},
	)
}

// TestMerge: merges that are kept, merges that clash, at the root and further
// down, and one that is no tree.
func TestMerge(t *testing.T) {
	leaves := func(label string) string { return strings.Repeat(" "+label, api.MaxNodes/2) }
	tells(t, "merges",
		told{"tree a(b c)", "kept 0"},
		told{"tree a(x b c)", "kept 1"},
		told{"tree q(b c y)", "kept 2"},
		told{"merge 0 1 2", "kept 3"},
		told{"show 3", "tree q(x b c y)"},
		told{"merge 0 2 1", "kept 4"},
		told{"show 4", "tree q(x b c y)"},
		told{"merge 0 0 1", "kept 5"},
		told{"show 5", "tree a(x b c)"},
		told{"merge 2 2 2", "kept 6"},
		told{"show 6", "tree q(b c y)"},
		told{"tree r(b c)", "kept 7"},
		told{"merge 0 2 7", "clash -"},
		told{"tree a(b c(d e(f)))", "kept 8"},
		told{"tree a(b c(d e(g)))", "kept 9"},
		told{"tree a(b c(d e(h)))", "kept 10"},
		told{"merge 8 9 10", "clash 1.1.0"},
		told{"tree a(b c(d e(f i)))", "kept 11"},
		told{"tree a(b c(d e(f j)))", "kept 12"},
		told{"merge 8 11 12", "clash 1.1"},
		told{"tree a(b)", "kept 13"},
		told{"tree a(b" + leaves("x") + ")", "kept 14"},
		told{"tree a(" + leaves("y") + " b)", "kept 15"},
		told{"merge 13 14 15", "no 2"},
		told{"merge 16 0 0", "no 7"},
		told{"merge 0 16 0", "no 7"},
		told{"merge 0 0 16", "no 7"},
		told{"merge -1 0 0", "no 7"},
		told{"merge 2 2 7", "kept 16"},
		told{"show 16", "tree r(b c)"},
	)
}

// TestClashFar: the path of a clash beneath many others, and behind many.
func TestClashFar(t *testing.T) {
	ahead := strings.Repeat("b ", 11)
	tells(t, "a clash far right",
		told{"tree a(" + ahead + "c(d))", "kept 0"},
		told{"tree a(" + ahead + "c(x))", "kept 1"},
		told{"tree a(" + ahead + "c(y))", "kept 2"},
		told{"merge 0 1 2", "clash 11.0"},
	)
	down := func(label string) string {
		return "tree " + strings.Repeat("a(", api.MaxDeep) + label + strings.Repeat(")", api.MaxDeep)
	}
	tells(t, "a clash far down",
		told{down("c"), "kept 0"},
		told{down("x"), "kept 1"},
		told{down("y"), "kept 2"},
		told{"merge 0 1 2", "clash 0.0.0.0.0.0.0.0.0.0"},
	)
}

// base: lines that make a desk on which each line can be done, of 4 trees.
func base() []string {
	return []string{"tree a(b c)", "tree a(x b c)", "tree q(b c y)", "tree r(b)"}
}

// atBase: a desk with the base done, and its ledger.
func atBase(t *testing.T) *both {
	t.Helper()
	b := newBoth()
	b.do(t, base()...)
	return b
}

// tellsAtBase: does a line tell that, at a desk on which the base was done, and
// is a tree kept just if it tells so?
func tellsAtBase(t *testing.T, line, want string) {
	t.Helper()
	b := atBase(t)
	if got := b.do(t, line); got != ended(want) {
		t.Errorf("%.100q: %q, want %q", line, got, ended(want))
	}
	kept := strings.HasPrefix(want, "kept")
	if got := b.do(t, "many"); kept != (got != "many 4 7\n") {
		t.Errorf("%.100q: then many tells %q", line, got)
	}
}

// TestNoWords: lines without words tell nothing, not a newline either.
func TestNoWords(t *testing.T) {
	for _, blanks := range []string{"", " ", "  ", "     ", strings.Repeat(" ", 10000)} {
		tellsAtBase(t, blanks, "")
		tells(t, "no words", told{blanks, ""})
		tells(t, "no words between others", told{"many", "many 0 0"}, told{blanks, ""}, told{blanks, ""}, told{"tree a", "kept 0"}, told{blanks, ""})
	}
	if s, f := desk.New().Do(make([]string, api.MaxLines)); s != "" || f != fault(0, 0) {
		t.Errorf("MaxLines lines without words: %q, %v", s, f)
	}
}

// TestNoLines: they tell nothing, whether the list is nil or empty.
func TestNoLines(t *testing.T) {
	some := []string{"tree a", "what"}
	for _, lines := range [][]string{nil, {}, make([]string, 0, 5), some[:0]} {
		b := newBoth()
		if s := b.do(t, lines...); s != "" {
			t.Errorf("no lines tell %q", s)
		}
		if s, f := b.desk.Do(lines); s != "" || f != fault(0, 0) {
			t.Errorf("no lines: %q, %v", s, f)
		}
		if s := b.do(t, "tree a", "many"); s != "kept 0\nmany 1 0\n" {
			t.Errorf("behind no lines: %q", s)
		}
	}
}

// askLines: each line that may have more blanks, and what it tells at the base.
var askLines = []told{
	{"show 1", "tree a(x b c)"},
	{"diff 0 1", "cost 1\ninsert - 0 0 x\nend"},
	{"step 1", "insert - 0 0 x\nend"},
	{"blame 1", "since 1 0 0 0"},
	{"merge 0 1 2", "kept 4"},
	{"merge 0 2 3", "clash -"},
	{"many", "many 4 7"},
	{"show 4", "no 7"},
	{"what", "what"},
	{"what 1", "what"},
}

// TestBlanks: more blanks between, ahead and behind, where they may stand so.
func TestBlanks(t *testing.T) {
	for _, c := range askLines {
		for _, blanks := range []string{" ", "  ", "       "} {
			tellsAtBase(t, c.line, c.want)
			tellsAtBase(t, blanks+c.line, c.want)
			tellsAtBase(t, c.line+blanks, c.want)
			tellsAtBase(t, strings.ReplaceAll(c.line, " ", " "+blanks), c.want)
			tellsAtBase(t, blanks+strings.ReplaceAll(c.line, " ", blanks)+" "+blanks, c.want)
			tellsAtBase(t, strings.Replace(c.line, " ", blanks, 1), c.want)
		}
	}
}

// TestBlanksOfTree: where blanks may not stand so, or are the tree's own.
func TestBlanksOfTree(t *testing.T) {
	for line, want := range map[string]string{
		" tree a":     "what",
		"   tree a":   "what",
		" tree":       "what",
		"  tree":      "what",
		" tree ":      "what",
		"tree a":      "kept 4",
		"tree  a":     "kept 4",
		"tree a  ":    "kept 4",
		"tree":        "no 5 0",
		"tree ":       "no 5 0",
		"tree  ":      "no 5 1",
		"treea":       "what",
		"tree(a)":     "what",
		"trees":       "what",
		"tre":         "what",
		"Tree a":      "what",
		"TREE a":      "what",
		"tr ee a":     "what",
		" do 0":       "what",
		"  do 0 x":    "what",
		"do  0 x":     "what",
		"do 0  x":     "no 6",
		"t":           "what",
		"atree a":     "what",
		"tree tree a": "no 6 5",
	} {
		tellsAtBase(t, line, want)
	}
}

// looksBlank: bytes that look like blanks, and are none.
var looksBlank = []string{"\t", "\r", "\v", "\f", "\x00", "\x1c", "\x1f", "\x7f", "\x85", "\xa0", "\xc2\xa0", "\xc2\x85", "\xe2\x80\x83", "\xe2\x80\x8b", "\xe2\x80\xa8", "\xe3\x80\x80", "\xef\xbb\xbf", "_"}

// TestLooksBlank: such bytes belong to the words that they stand beside.
func TestLooksBlank(t *testing.T) {
	for _, b := range looksBlank {
		for _, c := range askLines {
			tellsAtBase(t, b+c.line, "what")
			tellsAtBase(t, c.line+b, "what")
			tellsAtBase(t, c.line+" "+b, "what")
			tellsAtBase(t, b+" "+c.line, "what")
			if strings.Contains(c.line, " ") {
				tellsAtBase(t, strings.Replace(c.line, " ", b, 1), "what")
				tellsAtBase(t, strings.Replace(c.line, " ", " "+b, 1), "what")
				tellsAtBase(t, strings.Replace(c.line, " ", b+" ", 1), "what")
				tellsAtBase(t, strings.ReplaceAll(c.line, " ", b), "what")
			}
		}
		for line, want := range map[string]string{
			b:                             "what",
			b + b:                         "what",
			" " + b + " ":                 "what",
			b + "tree a":                  "what",
			"tree" + b:                    "what",
			"tree" + b + "a":              "what",
			"tree" + b + " a":             "what",
			"tree " + b:                   "no 4 0",
			"tree " + b + "a":             "no 4 0",
			"tree a" + b:                  "no 6 1",
			"tree a(b" + b + "c)":         "no 4 3",
			b + "do 0 name - x":           "what",
			"do" + b + "0 name - x":       "what",
			"do" + b + " 0 name - x":      "what",
			"do " + b + "0 name - x":      "what",
			"do 0" + b + "name - x":       "what",
			"do 0" + b + " name - x":      "what",
			"do 0 " + b + "name - x":      "no 6",
			"do 0 name" + b + "- x":       "no 6",
			"do 0 name -" + b + "x":       "no 6",
			"do 0 name - x" + b:           "no 1",
			"do 0 delete 0" + b:           "no 6",
			"do 0 insert - 0 0 x" + b:     "no 1",
			"do 0 insert - 0 0" + b + "x": "no 6",
		} {
			tellsAtBase(t, line, want)
		}
	}
}

// TestAnyByte: of all bytes it is the blank alone that parts words, and the
// newline alone that no line may have.
func TestAnyByte(t *testing.T) {
	for i := range 256 {
		b := string([]byte{byte(i)})
		if i == '\n' {
			continue
		}
		want, alone := "what", "what"
		if i == ' ' {
			want, alone = "tree a(b c)", ""
		}
		tellsAtBase(t, "show"+b+"0", want)
		tellsAtBase(t, b, alone)
	}
}

// places: each line with a number, # where it stands, at the base.
var places = []string{"show #", "diff # 0", "diff 0 #", "step #", "blame #", "merge # 0 0", "merge 0 # 0", "merge 0 0 #", "do # name - x", " show   #  ", "diff # #", "merge # # #"}

// TestNumbers: numbers that no tree has, as great and as small as 64 bits allow,
// in each place of each line.
func TestNumbers(t *testing.T) {
	for _, place := range places {
		for _, n := range []string{"4", "5", "10", "29", "30", "31", "100", "-1", "-2", "-4", "-10", "9223372036854775807", "-9223372036854775808", "4294967296", "2147483648", "-2147483648", "-4294967296", "9223372036854775806", "-9223372036854775807"} {
			tellsAtBase(t, strings.ReplaceAll(place, "#", n), "no 7")
		}
	}
	for n, want := range []string{"a(b c)", "a(x b c)", "q(b c y)", "r(b)"} {
		tellsAtBase(t, fmt.Sprint("show ", n), "tree "+want)
	}
}

// noNumbers: words that are none.
var noNumbers = []string{
	"+0", "+1", "-0", "+-1", "-+1", "--1", "-", "+", "00", "01", "-01", "000", "-00", "0000000000000000000000000000001",
	"9223372036854775808", "-9223372036854775809", "18446744073709551615", "18446744073709551616", "18446744073709551617", "-18446744073709551616", "36893488147419103232", "99999999999999999999999999",
	"0x0", "0x1", "0b1", "0o1", "1_0", "0_1", "1e0", "1.0", "0.0", ".0", "0.", "1,0", "1a", "a1", "a", "x", "(0)", "0)", "1-", "0-0", "#", "*", "-1-", "1'", "\xd9\xa0", "\xef\xbc\x90", "\xff", "0\x00", "\x000", "-\xd9\xa1", "∞", "nil", "one", "Inf", "NaN",
}

// TestNoNumbers: a line with such a word is none of the lines, in each place.
func TestNoNumbers(t *testing.T) {
	for _, place := range places {
		for _, n := range append(noNumbers, strings.Repeat("0", 1000), strings.Repeat("9", 1000), "-"+strings.Repeat("1", 1000)) {
			tellsAtBase(t, strings.ReplaceAll(place, "#", n), "what")
		}
	}
}

// TestNumberCut: a number with a blank inside is two words.
func TestNumberCut(t *testing.T) {
	for line, want := range map[string]string{
		"show 0 0":          "what",
		"show - 1":          "what",
		"show 1 0":          "what",
		"step - 1":          "what",
		"blame 1 0":         "what",
		"diff 1 0 0":        "what",
		"diff 1 0":          "cost 1\ndelete 0\nend",
		"diff - 1":          "what",
		"merge 1 0 0 0":     "what",
		"merge 0 1 0":       "kept 4",
		"do 1 0 name - x":   "no 6",
		"do - 1 name - x":   "what",
		"do 0 0 name - x":   "no 6",
		"many 0":            "what",
		"many 4 7":          "what",
		"show 92233720 368": "what",
	} {
		tellsAtBase(t, line, want)
	}
}

// TestManyWords: too few words, and too many.
func TestManyWords(t *testing.T) {
	needs := map[string]int{"show": 1, "diff": 2, "step": 1, "blame": 1, "merge": 3, "many": 0}
	for word, need := range needs {
		for many := range 8 {
			if many == need {
				continue
			}
			for _, n := range []string{" 0", "  1 ", " -1", " 9", " x", " " + word, " 9223372036854775808"} {
				tellsAtBase(t, word+strings.Repeat(n, many), "what")
			}
		}
	}
	tellsAtBase(t, "show"+strings.Repeat(" 0", 10000), "what")
	tellsAtBase(t, strings.Repeat("show 0 ", 1000), "what")
}

// TestWhat: lines that are none of the table's.
func TestWhat(t *testing.T) {
	for _, line := range []string{
		"what", "what 0", "kept 0", "no", "no 7", "end", "cost 0", "since 0", "clash -", "x", "0", "-", "1 2 3", "help", "quit", "name - x", "delete 0", "insert - 0 0 x", "a(b c)",
		"Many", "MANY", "man", "manyy", "many0", "many.", "many;", "many many", "many tree", "\"many\"", "amany", "ma ny",
		"Show 0", "SHOW 0", "sho 0", "shows 0", "show0", "show(0)", "show,0", "0 show", "show show", "show a(b c)", "show tree 0", "show #0", "show n",
		"Diff 0 1", "diff0 1", "diff 0,1", "diff 0-1", "dif 0 1", "diffs 0 1", "0 diff 1", "0 1 diff", "diff diff diff",
		"Step 1", "step1", "steps 1", "1 step", "Blame 1", "blame1", "blames 1", "1 blame", "Merge 0 1 2", "merges 0 1 2", "merge0 1 2", "0 merge 1 2", "merge 0 1,2",
		"tree\ta", "trees a", "treea", "TREE a", " tree a", "dot 0 name - x", "does 0 name - x", "Do 0 name - x", "undo 0", "do it", "do", "do 0",
		"\x00", "\xff\xfe", "\xff many", "many \xff", "\xf0\x9f\x8c\xb3", "?", "//", "# many", "show\xff0",
	} {
		tellsAtBase(t, line, "what")
		tells(t, "none of the lines", told{line, "what"}, told{"many", "many 0 0"}, told{line, "what"})
	}
}

// full: lines that fill a book with trees, each of which is another one.
func full() []string {
	var lines []string
	for n := range api.MaxTrees {
		lines = append(lines, "tree a("+string([]byte{byte('b' + n%20), byte('a' + n/20)})+" z)")
	}
	return lines
}

// TestFull: by tree, by do and by merge; what is told ahead of ErrFull is told
// still, and all that keeps no tree.
func TestFull(t *testing.T) {
	last := full()[api.MaxTrees-1]
	for _, way := range []struct{ line, shown string }{{last, strings.TrimPrefix(last, "tree ")}, {"do 0 name - q", "q(ba z)"}, {"merge 0 0 1", "a(ca z)"}} {
		b := newBoth()
		b.do(t, full()[:api.MaxTrees-1]...)
		if got := b.do(t, way.line, "show 29", "show 30"); got != "kept 29\ntree "+way.shown+"\nno 7\n" {
			t.Errorf("the last one by %q: %q", way.line, got)
		}
		was := b.all(t)
		for _, c := range []told{
			{"tree a", "no 13"},
			{last, "no 13"},
			{"tree", "no 5 0"},
			{"tree A", "no 4 0"},
			{"tree abcdefg", "no 1 -1"},
			{"do 0 name - x", "no 13"},
			{"do 29 name - x", "no 13"},
			{"do 0 delete", "no 6"},
			{"do 0 delete -", "no 8"},
			{"do 0 delete 9", "no 7"},
			{"do 0 insert - 9 0 x", "no 9"},
			{"do 30 name - x", "no 7"},
			{"do x name - x", "what"},
			{"merge 0 0 0", "no 13"},
			{"merge 0 0 1", "no 13"},
			{"merge 0 1 2", "clash 0"},
			{"merge 0 0 30", "no 7"},
			{"show 0", "tree a(ba z)"},
			{"diff 0 1", "cost 1\nname 0 ca\nend"},
			{"step 1", "name 0 ca\nend"},
			{"blame 1", "since 0 0 0"},
		} {
			if got := b.do(t, c.line); got != ended(c.want) {
				t.Errorf("a book that is full: %q: %q, want %q", c.line, got, ended(c.want))
			}
		}
		if now := b.all(t); now != was {
			t.Errorf("a book that is full changes: %q, was %q", now, was)
		}
	}
}

// TestMaxLines: as many lines as may be, and one more, whatever they are.
func TestMaxLines(t *testing.T) {
	for _, line := range []string{"", "many", "what", "tree a", "tree a(", "show 0"} {
		b := newBoth()
		lines := slices.Repeat([]string{line}, api.MaxLines)
		if s := b.do(t, lines...); strings.Count(s, "\n") != api.MaxLines && line != "" {
			t.Errorf("MaxLines of %q tell %q", line, s)
		}
		was := b.all(t)
		for _, more := range []int{1, 2, 1000} {
			s, f := b.desk.Do(slices.Concat(lines, slices.Repeat([]string{line}, more)))
			if s != "" || f != fault(api.ErrMany, -1) {
				t.Errorf("%d more than MaxLines of %q: %q, %v", more, line, s, f)
			}
		}
		if now := b.all(t); now != was {
			t.Errorf("too many lines of %q change the desk: %q, was %q", line, now, was)
		}
	}
}

// broken: lines, one or more of which have a newline, or that are too many, and
// the fault.
func broken() []struct {
	lines []string
	want  api.Fault
} {
	many := func(line string, times int) []string { return slices.Repeat([]string{line}, times) }
	type c = struct {
		lines []string
		want  api.Fault
	}
	return []c{
		{[]string{"\n"}, fault(api.ErrLine, 0)},
		{[]string{"many\n"}, fault(api.ErrLine, 0)},
		{[]string{"\nmany"}, fault(api.ErrLine, 0)},
		{[]string{"tree a\n"}, fault(api.ErrLine, 0)},
		{[]string{"tree a(b\nc)"}, fault(api.ErrLine, 0)},
		{[]string{"tree\na"}, fault(api.ErrLine, 0)},
		{[]string{"do 0 name - x\n"}, fault(api.ErrLine, 0)},
		{[]string{"show\n0"}, fault(api.ErrLine, 0)},
		{[]string{"what\r\n"}, fault(api.ErrLine, 0)},
		{[]string{"\n\n\n"}, fault(api.ErrLine, 0)},
		{[]string{strings.Repeat(" ", 100000) + "\n"}, fault(api.ErrLine, 0)},
		{[]string{"tree a\ntree b"}, fault(api.ErrLine, 0)},
		{[]string{"tree a\n", "tree b"}, fault(api.ErrLine, 0)},
		{[]string{"tree a", "tree b\n"}, fault(api.ErrLine, 1)},
		{[]string{"tree a", "tree b\n", "tree c"}, fault(api.ErrLine, 1)},
		{[]string{"tree a", "tree b\n", "tree c\n", "\n"}, fault(api.ErrLine, 1)},
		{[]string{"tree a", "", "do 0 name - x", "what", "x\ny"}, fault(api.ErrLine, 4)},
		{append(many("tree a", api.MaxLines-1), "\n"), fault(api.ErrLine, api.MaxLines-1)},
		{append([]string{"\n"}, many("tree a", api.MaxLines-1)...), fault(api.ErrLine, 0)},
		{many("\n", api.MaxLines), fault(api.ErrLine, 0)},
		{many("tree a", api.MaxLines+1), fault(api.ErrMany, -1)},
		{many("", api.MaxLines+1), fault(api.ErrMany, -1)},
		{many("\n", api.MaxLines+1), fault(api.ErrMany, -1)},
		{append(many("tree a", api.MaxLines), "\n"), fault(api.ErrMany, -1)},
		{append([]string{"\n"}, many("tree a", api.MaxLines)...), fault(api.ErrMany, -1)},
		{many("tree a", 100*api.MaxLines), fault(api.ErrMany, -1)},
	}
}

// TestFaults: a newline in the first line, a later one and the last one, and too
// many lines; nothing is told, and nothing is done, ahead of that line either:
// what is told later is told as if that call had not been.
func TestFaults(t *testing.T) {
	for _, c := range broken() {
		b, other := newBoth(), newBoth()
		for range 2 {
			if s, f := b.desk.Do(c.lines); s != "" || f != c.want {
				t.Errorf("Do(%.100q): %q, %v, want %v", c.lines, s, f, c.want)
			}
			if s, f := b.ledger.do(c.lines); s != "" || f != c.want {
				t.Errorf("Do(%.100q): the second reckoning tells %q, %v, want %v", c.lines, s, f, c.want)
			}
			lines := append(base(), "do 0 name - z", "merge 0 1 2", "merge 0 2 3", "many")
			if got, want := b.do(t, lines...), other.do(t, lines...); got != want {
				t.Errorf("behind Do(%.100q): %q, want %q", c.lines, got, want)
			}
			if got, want := b.all(t), other.all(t); got != want {
				t.Errorf("behind Do(%.100q): %q, want %q", c.lines, got, want)
			}
		}
	}
}

// TestTwo: two desks, and more, know nothing of each other.
func TestTwo(t *testing.T) {
	one, two, none := newBoth(), newBoth(), newBoth()
	for n, line := range full() {
		if got := one.do(t, line); got != fmt.Sprintf("kept %d\n", n) {
			t.Errorf("the first desk: %q: %q", line, got)
		}
		if n%3 == 0 {
			if got := two.do(t, "tree q(b)", "do 0 name - r", "x"); n < 3 && got != "kept 0\nkept 1\nwhat\n" {
				t.Errorf("the second desk: %q", got)
			}
		}
		if got := none.do(t, "many", "show 0", "do 0 name - x"); got != "many 0 0\nno 7\nno 7\n" {
			t.Errorf("a desk without trees: %q", got)
		}
		one.all(t)
		two.all(t)
	}
	if got := one.do(t, "tree a"); got != "no 13\n" {
		t.Errorf("the first desk, full: %q", got)
	}
	if got := none.do(t, "tree a", "many"); got != "kept 0\nmany 1 0\n" {
		t.Errorf("a desk without trees, beside two others: %q", got)
	}
}

// TestNoDesk: of a desk that New never answered nothing is promised, but that no
// call panics.
func TestNoDesk(t *testing.T) {
	for _, d := range []*desk.Desk{nil, {}} {
		for _, c := range askLines {
			d.Do(append(base(), c.line, "do 0 name - x", "do 0 x", "tree", ""))
		}
		for _, c := range broken() {
			if s, f := d.Do(c.lines); s != "" || f != c.want {
				t.Errorf("Do(%.100q) of no desk: %q, %v", c.lines, s, f)
			}
		}
		d.Do(nil)
	}
}
