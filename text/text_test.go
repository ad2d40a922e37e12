package text_test

import (
	"math/rand"
	"reflect"
	"strings"
	"testing"
	"time"
	"unsafe"

	"pleaching/api"
	"pleaching/text"
	"pleaching/tree"
)

// n: a node with that label and those kids. (A list of kids is not copied.)
func n(label string, kids ...api.Tree) api.Tree {
	return api.Tree{Label: label, Kids: kids}
}

// wide: a root and so many kids.
func wide(kids int) api.Tree {
	t := n("a")
	for range kids {
		t.Kids = append(t.Kids, n("b"))
	}
	return t
}

// chain: a node beneath so many others, the lowest with that label.
func chain(above int, label string) api.Tree {
	t := n(label)
	for range above {
		t = n("a", t)
	}
	return t
}

// deep: the text of a node beneath so many others, the lowest with that label.
func deep(above int, label string) string {
	return strings.Repeat("a(", above) + label + strings.Repeat(")", above)
}

// sample: a tree with leaves and inner nodes, some labels more than once.
func sample() api.Tree {
	return n("a", n("b", n("c"), n("d")), n("e"), n("b", n("c", n("f"), n("gg")), n("abcdef")))
}

const sampleText = "a(b(c d) e b(c(f gg) abcdef))"

// greatest: a tree of MaxNodes nodes with the longest labels, one of them
// beneath MaxDeep others.
func greatest() api.Tree {
	most := strings.Repeat("m", api.MaxLabel)
	t := n(most)
	for range api.MaxDeep {
		t = n(most, n(most), t, n(most))
	}
	for tree.Size(t) < api.MaxNodes {
		t.Kids = append(t.Kids, n(most))
	}
	return t
}

// isTree fails the test unless Parse of a text tells that tree.
func isTree(t *testing.T, s string, want api.Tree) {
	t.Helper()
	got, fault := text.Parse(s)
	if fault != (api.Fault{}) || !tree.Same(got, want) {
		t.Errorf("Parse(%q): %v, %v, want %v", s, got, fault, want)
	}
}

// isFault fails the test unless Parse of a text tells that fault, and no tree.
func isFault(t *testing.T, s string, code, at int) {
	t.Helper()
	got, fault := text.Parse(s)
	if fault != (api.Fault{Code: code, At: at}) || got.Label != "" || len(got.Kids) != 0 {
		t.Errorf("Parse(%q): %v, %v, want code %d at %d", s, got, fault, code, at)
	}
}

func TestPrint(t *testing.T) {
	for _, c := range []struct {
		t    api.Tree
		want string
	}{
		{n("a"), "a"},
		{n("abcdef"), "abcdef"},
		{n("a", []api.Tree{}...), "a"},
		{n("a", n("b")), "a(b)"},
		{n("a", n("b", []api.Tree{}...)), "a(b)"},
		{n("a", n("b"), n("c")), "a(b c)"},
		{n("a", n("b"), n("c"), n("d")), "a(b c d)"},
		{n("a", n("b", n("c"))), "a(b(c))"},
		{n("a", n("b", n("c")), n("d")), "a(b(c) d)"},
		{n("a", n("d"), n("b", n("c"))), "a(d b(c))"},
		{n("a", n("b", n("c")), n("d", n("e"))), "a(b(c) d(e))"},
		{n("zz", n("y", n("xx"), n("www"))), "zz(y(xx www))"},
		{sample(), sampleText},
		{chain(api.MaxDeep, "z"), deep(api.MaxDeep, "z")},
		{wide(api.MaxNodes - 1), "a(b" + strings.Repeat(" b", api.MaxNodes-2) + ")"},
	} {
		if got, code := text.Print(c.t); code != 0 || got != c.want {
			t.Errorf("Print: %q, %d, want %q", got, code, c.want)
		}
	}
}

func TestPrintOfNone(t *testing.T) {
	many, low := wide(api.MaxNodes), chain(api.MaxDeep, "z")
	for _, c := range []struct {
		what string
		t    api.Tree
		want int
	}{
		{"no tree at all", api.Tree{}, api.ErrName},
		{"a wrong label", n("A"), api.ErrName},
		{"a label that is too long", n("a", n("abcdefg")), api.ErrName},
		{"an empty label", n("a", n("b"), n("")), api.ErrName},
		{"a label that reads as kids", n("a(b)"), api.ErrName},
		{"a label with a blank", n("a", n("b c")), api.ErrName},
		{"too deep", n("a", low), api.ErrDeep},
		{"too many", many, api.ErrMany},
		{"far too many", wide(1000), api.ErrMany},
		{"a name, then deep", n("", low), api.ErrDeep},
		{"deep, then a name", n("a", low, n("")), api.ErrDeep},
		{"a name, then many", n("", many), api.ErrMany},
		{"deep, then many", n("a", low, many), api.ErrMany},
		{"all three", n("", low, many), api.ErrMany},
	} {
		if got, code := text.Print(c.t); code != c.want || got != "" {
			t.Errorf("Print of %s: %q, %d, want code %d", c.what, got, code, c.want)
		}
	}
}

// TestPrintEnds: of trees that are very deep, or that have no end, too.
func TestPrintEnds(t *testing.T) {
	loop := make([]api.Tree, 1)
	loop[0] = n("a", loop...)
	shared := n("a")
	for range 100 {
		shared = n("a", shared, shared)
	}
	for _, x := range []api.Tree{chain(1000000, "z"), n("a", loop...), shared} {
		done := make(chan struct{})
		go func() {
			defer close(done)
			if got, code := text.Print(x); code != api.ErrMany || got != "" {
				t.Errorf("Print: %q, %d", got, code)
			}
		}()
		select {
		case <-done:
		case <-time.After(time.Minute):
			t.Fatal("Print does not end")
		}
	}
}

// TestPrintLeavesAlone: what is handed in is not changed, and what lies behind
// a list's length is neither read nor written.
func TestPrintLeavesAlone(t *testing.T) {
	long := []api.Tree{n("b"), n("c"), n("kept", n("kept"))}
	none := []api.Tree{n("kept")}
	long[0].Kids = none[:0]
	x := n("a", long[:2]...)
	if got, code := text.Print(x); code != 0 || got != "a(b c)" {
		t.Errorf("Print: %q, %d", got, code)
	}
	if !tree.Same(x, n("a", n("b"), n("c"))) || !tree.Same(long[2], n("kept", n("kept"))) || !tree.Same(none[0], n("kept")) {
		t.Errorf("Print changed what was handed in: %v, %v, %v", x, long, none)
	}
}

func TestPrintIsNewMemory(t *testing.T) {
	bytes := []byte("abc")
	label := unsafe.String(&bytes[0], len(bytes))
	got, _ := text.Print(n(label))
	bytes[0] = 'z'
	if got != "abc" {
		t.Errorf("what was done to the argument changed the answer of Print: %q", got)
	}
}

func TestParse(t *testing.T) {
	for s, want := range map[string]api.Tree{
		"a":                    n("a"),
		"z":                    n("z"),
		"abcdef":               n("abcdef"),
		"a(b)":                 n("a", n("b")),
		"a(b c)":               n("a", n("b"), n("c")),
		"a(bc)":                n("a", n("bc")),
		"a(b(c))":              n("a", n("b", n("c"))),
		"a(b(c)d)":             n("a", n("b", n("c")), n("d")),
		"a(b(c) d)":            n("a", n("b", n("c")), n("d")),
		"a(b c(d))":            n("a", n("b"), n("c", n("d"))),
		"a(b (c))":             n("a", n("b", n("c"))),
		"a(b(c)d(e)f)":         n("a", n("b", n("c")), n("d", n("e")), n("f")),
		"a(b(c(d)e)f)":         n("a", n("b", n("c", n("d")), n("e")), n("f")),
		sampleText:             sample(),
		" a (b\nc( d))\n":      n("a", n("b"), n("c", n("d"))),
		"\n\n a\n(\nb\n)\n \n": n("a", n("b")),
	} {
		isTree(t, s, want)
	}
}

// TestParseBlanks: blanks at each of the places where they may stand, alone
// and at all of them at once, tell the same tree.
func TestParseBlanks(t *testing.T) {
	words := []string{"", "a", "(", "b", "(", "c", " ", "d", ")", "e", "(", "f", ")", " ", "g", ")", ""}
	want := n("a", n("b", n("c"), n("d")), n("e", n("f")), n("g"))
	for _, blanks := range []string{" ", "\n", "  ", "\n\n", " \n", "\n ", " \n  \n\n "} {
		for i := range len(words) - 1 {
			isTree(t, strings.Join(words[:i+1], "")+blanks+strings.Join(words[i+1:], ""), want)
		}
		isTree(t, strings.Join(words, blanks), want)
	}
}

// TestParseBetween: two kids' labels need a blank between, of either kind; in
// a label there is none.
func TestParseBetween(t *testing.T) {
	isTree(t, "a(b\nc)", n("a", n("b"), n("c")))
	isTree(t, "a(b c)", n("a", n("b"), n("c")))
	isTree(t, "a(bc)", n("a", n("bc")))
	isFault(t, "a b", api.ErrForm, 2)
	isFault(t, "a\nb", api.ErrForm, 2)
}

// TestParseEachByte: bytes other than letters, blanks, ( and ) may come
// nowhere; of letters there are 26, of blanks two.
func TestParseEachByte(t *testing.T) {
	for b := range 256 {
		c := string([]byte{byte(b)})
		switch {
		case 'a' <= b && b <= 'z':
			isTree(t, c, n(c))
			isTree(t, "a(b"+c+")", n("a", n("b"+c)))
			isFault(t, "a(b)"+c, api.ErrForm, 4)
			isFault(t, "a(b) "+c, api.ErrForm, 5)
		case b == 32 || b == 10:
			isTree(t, c+"a", n("a"))
			isTree(t, "a"+c, n("a"))
			isTree(t, "a(b"+c+"c)", n("a", n("b"), n("c")))
		case b != '(' && b != ')':
			for _, ahead := range []string{"", " ", "a(", "a(\n", "a(b", "a(b \n", "a(b(c)", "a(b(c) "} {
				isFault(t, ahead+c+"b)", api.ErrText, len(ahead))
				isFault(t, ahead+c, api.ErrText, len(ahead))
			}
			for _, ahead := range []string{"a", "a ", "a(b)", "a(b)\n "} {
				isFault(t, ahead+c+"b)", api.ErrForm, len(ahead))
				isFault(t, ahead+c, api.ErrForm, len(ahead))
			}
		}
	}
}

func TestParseFaults(t *testing.T) {
	for _, c := range []struct {
		s        string
		code, at int
	}{
		{"", api.ErrShort, 0},
		{" ", api.ErrShort, 1},
		{" \n \n", api.ErrShort, 4},
		{"a(", api.ErrShort, 2},
		{"a( \n", api.ErrShort, 4},
		{"a(b", api.ErrShort, 3},
		{"a(b ", api.ErrShort, 4},
		{"a(b(", api.ErrShort, 4},
		{"a(b(c)", api.ErrShort, 6},
		{"a(b(c)\n", api.ErrShort, 7},
		{"a(b c", api.ErrShort, 5},

		{"A", api.ErrText, 0},
		{"(", api.ErrText, 0},
		{")", api.ErrText, 0},
		{"()", api.ErrText, 0},
		{"(a)", api.ErrText, 0},
		{" \n(a)", api.ErrText, 2},
		{"a()", api.ErrText, 2},
		{"a( )", api.ErrText, 3},
		{"a((b))", api.ErrText, 2},
		{"a(b,c)", api.ErrText, 3},
		{"a(b , c)", api.ErrText, 4},
		{"a(b(c)(d))", api.ErrText, 6},
		{"a(b(c) (d))", api.ErrText, 7},
		{"a(bC)", api.ErrText, 3},
		{"a(b\tc)", api.ErrText, 3},
		{"a(b\r\nc)", api.ErrText, 3},
		{"a(b\x00)", api.ErrText, 3},
		{"a(ä)", api.ErrText, 2},
		{"\xef\xbb\xbfa", api.ErrText, 0},
		{"a(b c())", api.ErrText, 6},

		{"a b", api.ErrForm, 2},
		{"a)", api.ErrForm, 1},
		{"a )", api.ErrForm, 2},
		{"a(b))", api.ErrForm, 4},
		{"a(b)(c)", api.ErrForm, 4},
		{"a(b) c", api.ErrForm, 5},
		{"a(b)c", api.ErrForm, 4},
		{"aB", api.ErrForm, 1},
		{"a1", api.ErrForm, 1},
		{"a\t", api.ErrForm, 1},
		{"a \r", api.ErrForm, 2},
		{"a(b)\x00", api.ErrForm, 4},

		{"abcdefg", api.ErrName, -1},
		{"a(b abcdefg)", api.ErrName, -1},
		{" abcdefg(b)", api.ErrName, -1},
	} {
		isFault(t, c.s, c.code, c.at)
	}
}

func TestParseLongText(t *testing.T) {
	most := strings.Repeat(" ", api.MaxText-1) + "a"
	isTree(t, most, n("a"))
	isTree(t, "a"+strings.Repeat("\n", api.MaxText-1), n("a"))
	isTree(t, "a("+strings.Repeat(" ", api.MaxText-4)+"b)", n("a", n("b")))
	isFault(t, most+" ", api.ErrMany, -1)
	isFault(t, " "+most, api.ErrMany, -1)
	isFault(t, most+"a", api.ErrMany, -1)
	isFault(t, strings.Repeat(" ", api.MaxText), api.ErrShort, api.MaxText)
	isFault(t, strings.Repeat(" ", api.MaxText+1), api.ErrMany, -1)
	isFault(t, strings.Repeat(" ", api.MaxText-1)+"A", api.ErrText, api.MaxText-1)
	isFault(t, strings.Repeat(" ", 10*api.MaxText)+"a", api.ErrMany, -1)
}

func TestParseLabels(t *testing.T) {
	most := strings.Repeat("m", api.MaxLabel)
	isTree(t, most, n(most))
	isTree(t, "a("+most+" "+most+")", n("a", n(most), n(most)))
	isFault(t, most+"m", api.ErrName, -1)
	isFault(t, "a(b "+most+"m)", api.ErrName, -1)
	isFault(t, strings.Repeat("m", api.MaxText), api.ErrName, -1)
}

func TestParseMany(t *testing.T) {
	kids := func(many int) string { return strings.Repeat(" b", many) }
	isTree(t, "a("+kids(api.MaxNodes-1)+")", wide(api.MaxNodes-1))
	isFault(t, "a("+kids(api.MaxNodes)+")", api.ErrMany, -1)
	isFault(t, "a("+kids(900)+")", api.ErrMany, -1)
	isFault(t, "a(x("+kids(19)+") x("+kids(19)+"))", api.ErrMany, -1)
	isTree(t, "a(a("+kids(18)+") a("+kids(19)+"))", n("a", wide(18), wide(19)))
}

func TestParseDeep(t *testing.T) {
	open := 2 * (api.MaxDeep + 1) // the place behind the ( that would be one too many
	isTree(t, deep(api.MaxDeep, "z"), chain(api.MaxDeep, "z"))
	isTree(t, deep(api.MaxDeep, " \nz"), chain(api.MaxDeep, "z"))
	isTree(t, "a(b "+deep(api.MaxDeep-1, "z")+" b)", n("a", n("b"), chain(api.MaxDeep-1, "z"), n("b")))
	isFault(t, deep(api.MaxDeep+1, "z"), api.ErrDeep, open)
	isFault(t, deep(api.MaxDeep+1, " \nz"), api.ErrDeep, open)
	isFault(t, deep(api.MaxDeep, "z ( z )"), api.ErrDeep, open+1)
	isFault(t, deep(api.MaxDeep, "z\n(\n\nz)"), api.ErrDeep, open+1)
	isFault(t, strings.Repeat("a(", 900), api.ErrDeep, open)
	isFault(t, "a(b "+deep(api.MaxDeep, "z")+")", api.ErrDeep, open+2)
	isFault(t, deep(api.MaxDeep, "y z(z)"), api.ErrDeep, open+2)
}

// TestParseDeepFirst: that a node would stand too deep is told ahead of
// blanks, so whatever is wrong behind them comes later.
func TestParseDeepFirst(t *testing.T) {
	open := 2 * (api.MaxDeep + 1)
	for _, behind := range []string{"", " ", "\n", ")", " )", "A", " A", "(", "abcdefg"} {
		isFault(t, strings.Repeat("a(", api.MaxDeep+1)+behind, api.ErrDeep, open)
	}
	isFault(t, strings.Repeat("a(", api.MaxDeep), api.ErrShort, open-2)
	isFault(t, strings.Repeat("a(", api.MaxDeep)+")", api.ErrText, open-2)
	isFault(t, strings.Repeat("a(", api.MaxDeep)+"z()", api.ErrDeep, open)
}

// TestParseFirst: of more than one fault the first place's is told, and what
// tree.Check tells comes behind all of them.
func TestParseFirst(t *testing.T) {
	many := "a(" + strings.Repeat(" b", api.MaxNodes)
	low := deep(api.MaxDeep+1, "z")
	for _, c := range []struct {
		s        string
		code, at int
	}{
		{"a(A", api.ErrText, 2},
		{"a(b))A", api.ErrForm, 4},
		{"a(b,c", api.ErrText, 3},
		{"A b", api.ErrText, 0},
		{"a b(", api.ErrForm, 2},
		{"abcdefg(", api.ErrShort, 8},
		{"abcdefg()", api.ErrText, 8},
		{"abcdefg)", api.ErrForm, 7},
		{"abcdefg(" + low + ")", api.ErrDeep, 8 + 2*api.MaxDeep},
		{many, api.ErrShort, len(many)},
		{many + ",", api.ErrText, len(many)},
		{many + "))", api.ErrForm, len(many) + 1},
		{many + " " + low + ")", api.ErrDeep, len(many) + 1 + 2*api.MaxDeep},
		{many + " abcdefg)", api.ErrMany, -1},
		{"abcdefg" + many[1:] + ")", api.ErrMany, -1},
		{low + ")", api.ErrDeep, 2 * (api.MaxDeep + 1)},
		{"A" + strings.Repeat(" ", api.MaxText), api.ErrMany, -1},
		{low + strings.Repeat(" ", api.MaxText), api.ErrMany, -1},
		{"a(" + strings.Repeat(" ", api.MaxText), api.ErrMany, -1},
		{strings.Repeat("a", api.MaxText+1), api.ErrMany, -1},
	} {
		isFault(t, c.s, c.code, c.at)
	}
}

// shapes: all trees of so many nodes, their labels given in turn.
func shapes(nodes int) []api.Tree {
	labels := []string{"a", "bc", "zzzzzz", "a", "k"}
	var lists func(nodes int) [][]api.Tree
	lists = func(nodes int) [][]api.Tree {
		if nodes == 0 {
			return [][]api.Tree{nil}
		}
		var all [][]api.Tree
		for first := 1; first <= nodes; first++ {
			for _, kids := range lists(first - 1) {
				for _, rest := range lists(nodes - first) {
					head := n(labels[(nodes+first)%len(labels)], kids...)
					all = append(all, append([]api.Tree{head}, rest...))
				}
			}
		}
		return all
	}
	var all []api.Tree
	for _, kids := range lists(nodes - 1) {
		all = append(all, n("r", kids...))
	}
	return all
}

func TestThereAndBack(t *testing.T) {
	all := []api.Tree{sample(), greatest(), chain(api.MaxDeep, "z"), wide(api.MaxNodes - 1)}
	for nodes := 1; nodes <= 8; nodes++ {
		all = append(all, shapes(nodes)...)
	}
	told := map[string]struct{}{}
	for _, x := range all {
		s, code := text.Print(x)
		if code != 0 {
			t.Fatalf("Print of %v: %d", x, code)
		}
		if strings.ContainsAny(s, "\n") || strings.Contains(s, "  ") {
			t.Errorf("Print: %q has blanks that it should not have", s)
		}
		isTree(t, s, x)
		told[s] = struct{}{}
	}
	if len(told) != len(all) {
		t.Errorf("%d trees have %d texts", len(all), len(told))
	}
}

// expect: what Parse must tell of a text, by a machine without calls of its
// own: the text that Print has of the tree, or the fault.
func expect(s string) (string, api.Fault) {
	if len(s) > api.MaxText {
		return "", api.Fault{Code: api.ErrMany, At: -1}
	}
	const label, behindLabel, behindKids = 0, 1, 2
	var told strings.Builder
	state, open, nodes, long := label, 0, 0, false
	for i := 0; ; i++ {
		if state == label && open > api.MaxDeep {
			return "", api.Fault{Code: api.ErrDeep, At: i}
		}
		for i < len(s) && (s[i] == ' ' || s[i] == '\n') {
			i++
		}
		c := byte(0)
		if i < len(s) {
			c = s[i]
		}
		switch {
		case state == behindLabel && c == '(':
			told.WriteByte(c)
			state, open = label, open+1
		case state != label && open > 0 && c == ')':
			told.WriteByte(c)
			state, open = behindKids, open-1
		case state != label && open == 0 && i == len(s):
			switch {
			case nodes > api.MaxNodes:
				return "", api.Fault{Code: api.ErrMany, At: -1}
			case long:
				return "", api.Fault{Code: api.ErrName, At: -1}
			}
			return told.String(), api.Fault{}
		case state != label && open == 0:
			return "", api.Fault{Code: api.ErrForm, At: i}
		case i == len(s):
			return "", api.Fault{Code: api.ErrShort, At: i}
		case c < 'a' || c > 'z':
			return "", api.Fault{Code: api.ErrText, At: i}
		default:
			if state != label {
				told.WriteByte(' ')
			}
			word := s[i : len(s)-len(strings.TrimLeft(s[i:], "abcdefghijklmnopqrstuvwxyz"))]
			told.WriteString(word)
			state, nodes, long = behindLabel, nodes+1, long || len(word) > api.MaxLabel
			i += len(word) - 1
		}
	}
}

// asExpected fails the test unless Parse tells of a text what is expected.
func asExpected(t *testing.T, s string) {
	t.Helper()
	want, wantFault := expect(s)
	x, fault := text.Parse(s)
	got := ""
	if fault.Code == 0 {
		got, _ = text.Print(x)
	}
	if got != want || fault != wantFault || fault.Code != 0 && !tree.Same(x, api.Tree{}) {
		t.Fatalf("Parse(%q): %v, %v, want %q, %v", s, x, fault, want, wantFault)
	}
}

// TestParseAllShort: all texts of some bytes.
func TestParseAllShort(t *testing.T) {
	var all func(s string, more int)
	all = func(s string, more int) {
		asExpected(t, s)
		if more == 0 {
			return
		}
		for _, c := range "az() \n," {
			all(s+string(c), more-1)
		}
	}
	all("", 6)
}

// TestParseSpoilt: texts of trees, some too great, with blanks, and with some
// bytes changed, taken away or put in.
func TestParseSpoilt(t *testing.T) {
	source := rand.New(rand.NewSource(2))
	const bytes = "aaz(()) \n,A\x00\xff"
	for range 20000 {
		s := randomText(source, 1+source.Intn(12), 2+source.Intn(60))
		asExpected(t, s)
		for range source.Intn(4) {
			i := source.Intn(len(s) + 1)
			c := bytes[source.Intn(len(bytes))]
			switch source.Intn(4) {
			case 0:
				s = s[:i] + string([]byte{c}) + s[i:]
			case 1:
				s = s[:i]
			case 2:
				s = s[:max(i-1, 0)] + s[i:]
			case 3:
				s = s[:max(i-1, 0)] + string([]byte{c}) + s[i:]
			}
			asExpected(t, s)
		}
	}
}

// randomText: the text of a tree of about so many nodes, no node beneath more
// than so many others, with blanks.
func randomText(source *rand.Rand, above, nodes int) string {
	var s strings.Builder
	blanks := func(least int) {
		for range least + max(source.Intn(6)-3, 0) {
			s.WriteByte(" \n"[source.Intn(2)])
		}
	}
	var node func(above int)
	node = func(above int) {
		nodes--
		long := 1 + source.Intn(3)
		if source.Intn(100) == 0 {
			long = api.MaxLabel + source.Intn(2)
		}
		for range long {
			s.WriteByte(byte('a' + source.Intn(26)))
		}
		if above == 0 || nodes <= 0 || source.Intn(4) == 0 {
			return
		}
		blanks(0)
		s.WriteByte('(')
		for i := 0; i == 0 || nodes > 0 && source.Intn(4) > 0; i++ {
			blanks(min(i, 1))
			node(above - 1)
		}
		blanks(0)
		s.WriteByte(')')
	}
	blanks(0)
	node(above)
	blanks(0)
	return s.String()
}

// spoil gives each node of a tree another label, and writes behind each list,
// as far as its memory goes.
func spoil(t *api.Tree) {
	t.Label = "spoilt"
	for i := range t.Kids {
		spoil(&t.Kids[i])
	}
	rest := t.Kids[len(t.Kids):cap(t.Kids)]
	for i := range rest {
		rest[i] = n("spoilt")
	}
}

// TestParseIsNewMemory: answers share no memory with each other, nor do the
// lists of one answer.
func TestParseIsNewMemory(t *testing.T) {
	x, _ := text.Parse(sampleText)
	y, _ := text.Parse(sampleText)
	spoil(&x)
	if !reflect.DeepEqual(y, sample()) {
		t.Errorf("what was done to one answer of Parse changed another one: %v", y)
	}
	for i := range y.Kids {
		y.Kids[i].Kids = append(y.Kids[i].Kids, n("new"))
	}
	want := n("a", n("b", n("c"), n("d"), n("new")), n("e", n("new")), n("b", n("c", n("f"), n("gg")), n("abcdef"), n("new")))
	if !tree.Same(y, want) {
		t.Errorf("what came behind one list stands in another one: %v", y)
	}
	spoil(&y.Kids[0])
	y.Kids[0] = want.Kids[0]
	if !tree.Same(y, want) {
		t.Errorf("lists of one answer share memory: %v", y)
	}
}

// TestParseKeepsNoText: the labels are not pieces of the text.
func TestParseKeepsNoText(t *testing.T) {
	bytes := []byte(sampleText)
	x, _ := text.Parse(unsafe.String(&bytes[0], len(bytes)))
	if string(bytes) != sampleText {
		t.Errorf("Parse changed the text to %q", bytes)
	}
	for i := range bytes {
		bytes[i] = 'z'
	}
	if !tree.Same(x, sample()) {
		t.Errorf("what was done to the text changed the answer of Parse: %v", x)
	}
}
