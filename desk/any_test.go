package desk_test

import (
	"fmt"
	"math/rand"
	"slices"
	"strings"
	"testing"
	"time"

	"pleaching/api"
	"pleaching/desk"
	"pleaching/patch"
	"pleaching/text"
	"pleaching/tree"
)

// n: a node with that label and those kids.
func n(label string, kids ...api.Tree) api.Tree {
	return api.Tree{Label: label, Kids: kids}
}

// printed: the text of a tree.
func printed(x api.Tree) string {
	s, _ := text.Print(x)
	return s
}

// grown: a tree of so many nodes with labels of the first so many letters, each
// put in at a place that r chooses.
func grown(r *rand.Rand, nodes, letters int) api.Tree {
	label := func() string { return string(rune('a' + r.Intn(letters))) }
	x := n(label())
	for tree.Size(x) < nodes {
		at := &x
		for above := 0; above < api.MaxDeep-1 && len(at.Kids) > 0 && r.Intn(3) > 0; above++ {
			at = &at.Kids[r.Intn(len(at.Kids))]
		}
		at.Kids = slices.Insert(at.Kids, r.Intn(len(at.Kids)+1), n(label()))
	}
	return x
}

// somewhere: the path of a node of a tree, and how many kids it has.
func somewhere(r *rand.Rand, x api.Tree) ([]int, int) {
	var path []int
	for len(x.Kids) > 0 && r.Intn(3) > 0 {
		kid := r.Intn(len(x.Kids))
		path, x = append(path, kid), x.Kids[kid]
	}
	return path, len(x.Kids)
}

// chooser: chooses lines for a desk whose trees are those of a ledger.
type chooser struct {
	*rand.Rand
	ledger  *ledger
	nodes   int
	letters int
}

// number of a tree, now and then of none.
func (c *chooser) number() int {
	switch many := len(c.ledger.trees); {
	case many == 0 || c.Intn(15) == 0:
		return c.Intn(api.MaxTrees+4) - 2
	case c.Intn(2) == 0:
		return many - 1 - c.Intn(min(many, 4))
	default:
		return c.Intn(many)
	}
}

// deedLine: a line of a deed that can be done to a tree, most of the time.
func (c *chooser) deedLine(number int) string {
	var path []int
	kids := 2
	if !c.ledger.lacks(number) {
		path, kids = somewhere(c.Rand, c.ledger.trees[number])
	}
	label := string(rune('a' + c.Intn(c.letters+1)))
	at := c.Intn(kids + 1)
	switch c.Intn(8) {
	case 0, 1:
		return fmt.Sprintf("name %s %s", patch.Path(path), label)
	case 2, 3:
		return "delete " + patch.Path(path)
	case 4:
		return fmt.Sprintf("insert %s %d %d %s", patch.Path(append(path, 3)), at, 1, label)
	}
	return fmt.Sprintf("insert %s %d %d %s", patch.Path(path), at, c.Intn(kids-at+1), label)
}

// threes: numbers for a merge: of trees that came of each other, more often than
// not.
func (c *chooser) threes() (int, int, int) {
	o := c.number()
	if c.Intn(3) == 0 {
		return o, c.number(), c.number()
	}
	return o, o + c.Intn(3), o + c.Intn(3) - 1
}

// line: one of the table's.
func (c *chooser) line() string {
	switch c.Intn(12) {
	case 0, 1:
		return "tree " + printed(grown(c.Rand, 1+c.Intn(c.nodes), c.letters))
	case 2, 3, 4:
		number := c.number()
		return fmt.Sprintf("do %d %s", number, c.deedLine(number))
	case 5:
		return fmt.Sprintf("show %d", c.number())
	case 6:
		return fmt.Sprintf("diff %d %d", c.number(), c.number())
	case 7:
		return fmt.Sprintf("step %d", c.number())
	case 8:
		return fmt.Sprintf("blame %d", c.number())
	case 9, 10:
		o, x, y := c.threes()
		return fmt.Sprintf("merge %d %d %d", o, x, y)
	}
	return "many"
}

// spoilt: a line with some bytes put in, taken away, or written over.
func (c *chooser) spoilt(line string) string {
	const bytes = "  \t\r\x00-+.0123456789abtreedo()A\xff"
	l := []byte(line)
	for range 1 + c.Intn(3) {
		b, at := bytes[c.Intn(len(bytes))], c.Intn(len(l)+1)
		switch {
		case at == len(l) || c.Intn(3) == 0:
			l = slices.Insert(l, at, b)
		case c.Intn(2) == 0:
			l = slices.Delete(l, at, at+1)
		default:
			l[at] = b
		}
	}
	return string(l)
}

// some lines, most of them right ones.
func (c *chooser) some(many int) []string {
	var lines []string
	for range many {
		line := c.line()
		switch c.Intn(8) {
		case 0:
			line = c.spoilt(line)
		case 1:
			line = strings.ReplaceAll(line, " ", strings.Repeat(" ", 1+c.Intn(2)))
		}
		lines = append(lines, line)
	}
	return lines
}

// TestAny: lines that r chooses, held against the second reckoning.
func TestAny(t *testing.T) {
	r := rand.New(rand.NewSource(10))
	words := map[string]int{}
	for range 120 {
		b := newBoth()
		c := &chooser{r, b.ledger, 1 + r.Intn(20), 1 + r.Intn(5)}
		for range 30 {
			s := b.do(t, c.some(r.Intn(8))...)
			for _, told := range strings.Split(s, "\n") {
				word, rest, _ := strings.Cut(told, " ")
				if word == "no" {
					word += " " + rest
				}
				words[word]++
			}
		}
		b.all(t)
	}
	for _, word := range []string{"kept", "tree", "cost", "name", "delete", "insert", "end", "since", "clash", "many", "what", "no 1", "no 6", "no 7", "no 8", "no 13"} {
		if words[word] < 10 {
			t.Errorf("%q was told %d times: too few of %v", word, words[word], words)
		}
	}
}

// TestAnyCut: lines that r chooses tell the same in one Do and in several, cut
// anywhere, with no lines between, too.
func TestAnyCut(t *testing.T) {
	r := rand.New(rand.NewSource(11))
	for range 30 {
		one := newBoth()
		c := &chooser{r, one.ledger, 1 + r.Intn(12), 1 + r.Intn(5)}
		var lines []string
		want := ""
		for range 50 {
			line := c.some(1)
			lines, want = append(lines, line...), want+one.do(t, line...)
		}
		tellsCut(t, "any lines", lines, want)
		d, got := desk.New(), ""
		for rest := lines; len(rest) > 0; {
			long := r.Intn(min(len(rest), 7) + 1)
			s, f := d.Do(rest[:long])
			if f != fault(0, 0) {
				t.Errorf("Do(%q): %v", rest[:long], f)
			}
			got, rest = got+s, rest[long:]
		}
		if got != want {
			t.Errorf("%q in pieces: %q, want %q", lines, got, want)
		}
	}
}

// great: texts of trees that have as many nodes as may be, and labels as long,
// and, but for the first one, nodes as deep as may be.
func great(t *testing.T) []string {
	t.Helper()
	node := func(letter string) string { return strings.Repeat(letter, api.MaxLabel) }
	line := func(above int, letter, end string) string {
		return strings.Repeat(node(letter)+"(", above) + node(letter) + end + strings.Repeat(")", above)
	}
	leaves := func(letter string, many int) string { return strings.Repeat(" "+node(letter), many) }
	rest := api.MaxNodes - api.MaxDeep - 1
	all := []string{
		node("a") + "(" + leaves("b", api.MaxNodes-1) + ")",
		line(api.MaxDeep, "c", leaves("b", rest)),
		line(api.MaxDeep, "d", leaves("e", rest)),
		node("f") + "(" + leaves("b", rest) + " " + line(api.MaxDeep-1, "c", "") + ")",
		node("f") + "(" + line(api.MaxDeep-1, "d", "") + leaves("g", rest) + ")",
	}
	for i, s := range all {
		x, f := text.Parse(s)
		if f.Code != 0 || tree.Size(x) != api.MaxNodes {
			t.Fatalf("%q: %v, %d nodes", s, f, tree.Size(x))
		}
		all[i] = printed(x)
	}
	return all
}

// TestGreat: a full book of trees as great as may be, and as many lines as may
// be that tell as much as can be.
func TestGreat(t *testing.T) {
	texts := great(t)
	b := newBoth()
	for i := range api.MaxTrees {
		s := texts[i*(1+i/10)%len(texts)]
		if got := b.do(t, "tree "+s, fmt.Sprint("show ", i)); got != fmt.Sprintf("kept %d\ntree %s\n", i, s) {
			t.Errorf("a great tree: %q", got)
		}
	}
	b.all(t)
	for _, line := range []func(i int) string{
		func(i int) string { return fmt.Sprintf("diff %d %d", i%api.MaxTrees, i*7%api.MaxTrees) },
		func(i int) string { return fmt.Sprintf("blame %d", i%api.MaxTrees) },
		func(i int) string { return fmt.Sprintf("step %d", i%api.MaxTrees) },
		func(i int) string {
			return fmt.Sprintf("merge %d %d %d", i%api.MaxTrees, i*3%api.MaxTrees, i*11%api.MaxTrees)
		},
		func(i int) string { return fmt.Sprintf("do %d insert - 0 0 x", i%api.MaxTrees) },
		func(i int) string { return fmt.Sprintf("do %d delete 0", i%api.MaxTrees) },
	} {
		var lines []string
		for i := range api.MaxLines {
			lines = append(lines, line(i))
		}
		b.do(t, lines...)
	}
}

// TestLongest: two trees as far apart as may be; the lines of all deeds between
// them are told.
func TestLongest(t *testing.T) {
	under := func(letter string) string {
		return "(" + letter + strings.Repeat(" "+letter, api.MaxNodes-2) + ")"
	}
	down := func(letter string) string {
		return "(" + strings.Repeat(letter+"(", api.MaxDeep-1) + letter + strings.Repeat(" "+letter, api.MaxNodes-1-api.MaxDeep) + strings.Repeat(")", api.MaxDeep-1) + ")"
	}
	b := newBoth()
	b.do(t, "tree a"+under("b"), "tree c"+down("d"), "tree a", "tree e"+under("b"))
	for _, line := range []string{"diff 0 1", "diff 1 0", "step 1", "diff 0 2", "diff 2 1", "step 3"} {
		s := b.do(t, line)
		if many := strings.Count(s, "\n"); many < api.MaxNodes {
			t.Errorf("%q: %d lines: %q", line, many, s)
		}
	}
}

// TestEnds: every call ends, and soon, however long a line or the list is.
func TestEnds(t *testing.T) {
	const long = 1 << 20
	began := time.Now()
	b := atBase(t)
	for _, c := range []told{
		{strings.Repeat(" ", long), ""},
		{strings.Repeat("a", long), "what"},
		{strings.Repeat("a ", long), "what"},
		{"show" + strings.Repeat(" ", long) + "0" + strings.Repeat(" ", long), "tree a(b c)"},
		{"show " + strings.Repeat("9", long), "what"},
		{"show -" + strings.Repeat("1", long), "what"},
		{"show" + strings.Repeat(" 0", long), "what"},
		{"many" + strings.Repeat(" ", long), "many 4 7"},
		{"tree " + strings.Repeat("a(", long), "no 2 -1"},
		{"tree " + strings.Repeat(" ", long), "no 2 -1"},
		{"tree" + strings.Repeat("a", long), "what"},
		{"do " + strings.Repeat("1", long) + " name - x", "what"},
		{"do 0 " + strings.Repeat(" ", long), "no 6"},
		{"do 0 name - " + strings.Repeat("a", long), "no 1"},
		{"do 0 delete 0" + strings.Repeat(".0", long), "no 7"},
		{"do 0 insert 0" + strings.Repeat(".0", long) + " 0 0 x", "no 7"},
		{"do" + strings.Repeat(" 0", long), "no 6"},
		{strings.Repeat("\x00", long), "what"},
		{strings.Repeat("\xff", long), "what"},
	} {
		if s, f := b.desk.Do([]string{c.line}); s != ended(c.want) || f != fault(0, 0) {
			t.Errorf("%.30q, and so on: %.100q, %v, want %q", c.line, s, f, ended(c.want))
		}
	}
	if s, f := b.desk.Do(make([]string, long)); s != "" || f != fault(api.ErrMany, -1) {
		t.Errorf("%d lines: %q, %v", long, s, f)
	}
	if took := time.Since(began); took > time.Minute {
		t.Errorf("it took %v", took)
	}
}

// TestAlike: what is told hangs on the lines, and on those told ahead of them at
// that desk, alone: not on the others, and not on how often something was asked
// that keeps nothing.
func TestAlike(t *testing.T) {
	r := rand.New(rand.NewSource(12))
	for range 20 {
		one, two, asked := newBoth(), newBoth(), newBoth()
		c := &chooser{r, one.ledger, 1 + r.Intn(12), 1 + r.Intn(5)}
		for range 10 {
			lines := c.some(6)
			want := one.do(t, lines...)
			for range 2 {
				asked.all(t)
				asked.do(t, "what", "", "tree (", "do 0 x", "do 99 name - x", "diff 0 0", "merge 99 0 0", "many")
			}
			if got := two.do(t, lines...); got != want {
				t.Errorf("a second desk: %q: %q, want %q", lines, got, want)
			}
			if got := asked.do(t, lines...); got != want {
				t.Errorf("a desk that was asked more: %q: %q, want %q", lines, got, want)
			}
		}
		if got, want := asked.all(t), one.all(t); got != want {
			t.Errorf("a desk that was asked more: %q, want %q", got, want)
		}
	}
}
