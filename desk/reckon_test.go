package desk_test

import (
	"fmt"
	"math/big"
	"regexp"
	"slices"
	"strings"
	"testing"

	"pleaching/api"
	"pleaching/deed"
	"pleaching/desk"
	"pleaching/dist"
	"pleaching/merge"
	"pleaching/patch"
	"pleaching/script"
	"pleaching/text"
	"pleaching/tree"
)

// The second reckoning: lines by patterns, what they tell by fmt, and all of it
// from the trees that were kept, which it keeps itself, one by one.
const numberPattern = `(0|-?[1-9][0-9]*)`

var (
	treeLine = regexp.MustCompile(`(?s)\Atree(?: (.*))?\z`)
	doLine   = regexp.MustCompile(`(?s)\Ado ` + numberPattern + ` (.*)\z`)
	noWords  = regexp.MustCompile(`\A *\z`)
)

// asked: the pattern of a line of that word and so many numbers.
func asked(word string, many int) *regexp.Regexp {
	return regexp.MustCompile(`\A *` + word + strings.Repeat(` +`+numberPattern, many) + ` *\z`)
}

// ledger: all trees that were kept.
type ledger struct{ trees []api.Tree }

// asks: each line but tree and do, and what it tells of its numbers.
var asks = []struct {
	line *regexp.Regexp
	tell func(g *ledger, l []int) []string
}{
	{asked("show", 1), (*ledger).show},
	{asked("diff", 2), (*ledger).diff},
	{asked("step", 1), (*ledger).step},
	{asked("blame", 1), (*ledger).blame},
	{asked("merge", 3), (*ledger).merge},
	{asked("many", 0), (*ledger).many},
}

// do: point 1, by its words.
func (g *ledger) do(lines []string) (string, api.Fault) {
	if len(lines) > api.MaxLines {
		return "", fault(api.ErrMany, -1)
	}
	for number, line := range lines {
		if slices.Contains([]byte(line), '\n') {
			return "", fault(api.ErrLine, number)
		}
	}
	all := ""
	for _, line := range lines {
		for _, told := range g.told(line) {
			all += told + "\n"
		}
	}
	return all, fault(0, 0)
}

// told: the things that a line tells.
func (g *ledger) told(line string) []string {
	if noWords.MatchString(line) {
		return nil
	}
	if m := treeLine.FindStringSubmatch(line); m != nil {
		return g.tree(m[1])
	}
	if m := doLine.FindStringSubmatch(line); m != nil {
		if l, ok := scanned(m[1]); ok {
			return g.with(l[0], m[2])
		}
	}
	for _, a := range asks {
		if m := a.line.FindStringSubmatch(line); m != nil {
			if l, ok := scanned(m[1:]...); ok {
				return a.tell(g, l)
			}
		}
	}
	return []string{"what"}
}

// scanned: the numbers of words that have that pattern; false: one has more than
// 64 bits.
func scanned(words ...string) ([]int, bool) {
	var l []int
	for _, word := range words {
		n, ok := new(big.Int).SetString(word, 10)
		if !ok || !n.IsInt64() {
			return nil, false
		}
		l = append(l, int(n.Int64()))
	}
	return l, true
}

func no(code int) []string { return []string{fmt.Sprint("no ", code)} }

func (g *ledger) kept(x api.Tree) []string {
	if len(g.trees) == api.MaxTrees {
		return no(api.ErrFull)
	}
	g.trees = append(g.trees, x)
	return []string{fmt.Sprint("kept ", len(g.trees)-1)}
}

func (g *ledger) tree(s string) []string {
	x, f := text.Parse(s)
	if f.Code != 0 {
		return []string{fmt.Sprintf("no %d %d", f.Code, f.At)}
	}
	return g.kept(x)
}

func (g *ledger) with(n int, line string) []string {
	d, code := patch.Deed(line)
	if code != 0 {
		return no(code)
	}
	if g.lacks(n) {
		return no(api.ErrNone)
	}
	x, _, code := deed.Do(g.trees[n], d)
	if code != 0 {
		return no(code)
	}
	return g.kept(x)
}

// lacks: is there no tree with one of these numbers?
func (g *ledger) lacks(l ...int) bool {
	for _, n := range l {
		if n < 0 || n >= len(g.trees) {
			return true
		}
	}
	return false
}

func (g *ledger) show(l []int) []string {
	if g.lacks(l...) {
		return no(api.ErrNone)
	}
	s, _ := text.Print(g.trees[l[0]])
	return []string{"tree " + s}
}

// deeds between two trees, as lines, and the end.
func (g *ledger) deeds(m, n int) []string {
	var all []string
	l, _ := script.Diff(g.trees[m], g.trees[n])
	for _, d := range l {
		line, _ := patch.Line(d)
		all = append(all, line)
	}
	return append(all, "end")
}

func (g *ledger) diff(l []int) []string {
	if g.lacks(l...) {
		return no(api.ErrNone)
	}
	table, _ := dist.Of(g.trees[l[0]], g.trees[l[1]])
	return append([]string{fmt.Sprint("cost ", table.Cost())}, g.deeds(l[0], l[1])...)
}

func (g *ledger) step(l []int) []string {
	if g.lacks(l[0]) || l[0] == 0 {
		return no(api.ErrNone)
	}
	return g.deeds(l[0]-1, l[0])
}

// blame: since when nodes have been there, by those that stay from each tree to
// the next.
func (g *ledger) blame(l []int) []string {
	if g.lacks(l...) {
		return no(api.ErrNone)
	}
	var since []int
	for n, x := range g.trees[:l[0]+1] {
		next := slices.Repeat([]int{n}, tree.Size(x))
		if n > 0 {
			table, _ := dist.Of(g.trees[n-1], x)
			for _, p := range table.Best() {
				next[p.B] = since[p.A]
			}
		}
		since = next
	}
	return []string{"since " + strings.Trim(fmt.Sprint(since), "[]")}
}

func (g *ledger) merge(l []int) []string {
	if g.lacks(l...) {
		return no(api.ErrNone)
	}
	x, path, code := merge.Merge(g.trees[l[0]], g.trees[l[1]], g.trees[l[2]])
	switch {
	case code == api.ErrClash && len(path) == 0:
		return []string{"clash -"}
	case code == api.ErrClash:
		return []string{"clash " + strings.ReplaceAll(strings.Trim(fmt.Sprint(path), "[]"), " ", ".")}
	case code != 0:
		return no(code)
	}
	return g.kept(x)
}

func (g *ledger) many([]int) []string {
	deeds := 0
	for n := 1; n < len(g.trees); n++ {
		deeds += len(g.deeds(n-1, n)) - 1
	}
	return []string{fmt.Sprintf("many %d %d", len(g.trees), deeds)}
}

// both: a desk, and a ledger that is told the same lines.
type both struct {
	desk   *desk.Desk
	ledger *ledger
}

func newBoth() *both { return &both{desk.New(), &ledger{}} }

// do: what the desk tells of lines, which must be what the ledger does.
func (b *both) do(t *testing.T, lines ...string) string {
	t.Helper()
	s, f := b.desk.Do(lines)
	if want, wanted := b.ledger.do(lines); s != want || f != wanted {
		t.Errorf("Do(%.300q): %.3000q, %v, want %.3000q, %v", lines, s, f, want, wanted)
	}
	return s
}

// all: what a desk tells of all that it holds, which must be what the ledger
// does.
func (b *both) all(t *testing.T) string {
	t.Helper()
	return b.do(t, everything(len(b.ledger.trees))...)
}

// everything: lines that ask for all that a desk of so many trees holds.
func everything(many int) []string {
	lines := []string{"many"}
	for n := range many + 1 {
		lines = append(lines, fmt.Sprint("show ", n), fmt.Sprint("step ", n), fmt.Sprint("blame ", n))
	}
	return lines
}
