package patch_test

import (
	"fmt"
	"math"
	"slices"
	"strings"
	"testing"

	"pleaching/api"
	"pleaching/deed"
	"pleaching/patch"
)

const most, least = math.MaxInt, math.MinInt

func fault(code, at int) api.Fault { return api.Fault{Code: code, At: at} }

func named(label string, path ...int) api.Deed {
	return api.Deed{Kind: api.DName, Path: path, Label: label}
}

func deleted(path ...int) api.Deed {
	return api.Deed{Kind: api.DDelete, Path: path}
}

func inserted(label string, at, many int, path ...int) api.Deed {
	return api.Deed{Kind: api.DInsert, Path: path, At: at, Many: many, Label: label}
}

// TestPath: paths of no, one and several numbers, and numbers that no path of
// a line has.
func TestPath(t *testing.T) {
	for _, c := range []struct {
		path []int
		want string
	}{
		{nil, "-"},
		{[]int{}, "-"},
		{[]int{0}, "0"},
		{[]int{9}, "9"},
		{[]int{10}, "10"},
		{[]int{99}, "99"},
		{[]int{100}, "100"},
		{[]int{999}, "999"},
		{[]int{0, 0}, "0.0"},
		{[]int{1, 20}, "1.20"},
		{[]int{0, 9, 10, 99, 100, 999}, "0.9.10.99.100.999"},
		{[]int{1, 2, 3}[:2], "1.2"},
		{[]int{1, 2, 3}[:0], "-"},

		{[]int{1000}, "1000"},
		{[]int{-1}, "-1"},
		{[]int{0, -1, 0}, "0.-1.0"},
		{[]int{most, least}, "9223372036854775807.-9223372036854775808"},
	} {
		if got := patch.Path(c.path); got != c.want {
			t.Errorf("Path(%v): %q, want %q", c.path, got, c.want)
		}
	}
}

// TestParsePath: the texts of paths, by the words of the chapter.
func TestParsePath(t *testing.T) {
	for _, c := range []struct {
		text string
		want []int
	}{
		{"-", nil},
		{"0", []int{0}},
		{"9", []int{9}},
		{"10", []int{10}},
		{"99", []int{99}},
		{"100", []int{100}},
		{"999", []int{999}},
		{"0.0", []int{0, 0}},
		{"1.20", []int{1, 20}},
		{"0.9.10.99.100.999", []int{0, 9, 10, 99, 100, 999}},
	} {
		if got, ok := patch.ParsePath(c.text); !ok || !slices.Equal(got, c.want) {
			t.Errorf("ParsePath(%q): %v, %v, want %v", c.text, got, ok, c.want)
		}
		comparePath(t, c.text)
	}
}

// TestParsePathNone: texts that no path has.
func TestParsePathNone(t *testing.T) {
	for _, s := range []string{
		"", " ", ".", "..", "1.", ".1", "1..2", "1.2.", ".1.2", "1...2",
		"00", "01", "000", "007", "0.00", "1.02", "010",
		"+1", "-1", "+0", "-0", "1.-2", "1.+2",
		"1000", "0999", "1001", "9999", "1.1000", "1000.1", "18446744073709551616", "9223372036854775807", "9223372036854775808", "-9223372036854775808",
		"--", "-.", ".-", "-.1", "1.-", "- ", " -", "1 ", " 1", "1. 2", "1 .2", "1 2", "1,2", "1\n", "\n1", "-\n", "1.2\x00", "\x00",
		"a", "1a", "a1", "1.a", "0x1", "1e1", "1_0", "\xd9\xa1", "\xff", "1.\xff", "\xc2\xa01", "−", "①",
		strings.Repeat("1.", 1000), strings.Repeat("1", 1000), strings.Repeat(".", 1000),
	} {
		if got, ok := patch.ParsePath(s); ok || len(got) != 0 {
			t.Errorf("ParsePath(%q): %v, %v", s, got, ok)
		}
		comparePath(t, s)
	}
}

// rights: deeds and their lines.
var rights = []struct {
	d    api.Deed
	line string
}{
	{named("a"), "name - a"},
	{named("ab", []int{}...), "name - ab"},
	{named("abcdef", 0), "name 0 abcdef"},
	{named("name", 9, 10), "name 9.10 name"},
	{named("delete", 999), "name 999 delete"},
	{deleted(0), "delete 0"},
	{deleted(0, 12), "delete 0.12"},
	{deleted(99, 100, 999, 0), "delete 99.100.999.0"},
	{inserted("a", 0, 0), "insert - 0 0 a"},
	{inserted("a", 1, 0), "insert - 1 0 a"},
	{inserted("a", 0, 1), "insert - 0 1 a"},
	{inserted("e", 1, 1), "insert - 1 1 e"},
	{inserted("c", 1, 999, 3), "insert 3 1 999 c"},
	{inserted("insert", 9, 10, 99, 100), "insert 99.100 9 10 insert"},
	{inserted("zzzzzz", 999, 999, 999, 999), "insert 999.999 999 999 zzzzzz"},
}

// TestLineAndDeed: lines of each kind, there and back.
func TestLineAndDeed(t *testing.T) {
	for _, c := range rights {
		if line, code := patch.Line(c.d); line != c.line || code != 0 {
			t.Errorf("Line(%v): %q, %d, want %q", c.d, line, code, c.line)
		}
		if d, code := patch.Deed(c.line); !deed.Same(d, c.d) || code != 0 {
			t.Errorf("Deed(%q): %v, %d, want %v", c.line, d, code, c.d)
		}
	}
}

// TestLineNone: each code of point 2 alone, and several at once.
func TestLineNone(t *testing.T) {
	for _, c := range []struct {
		what string
		d    api.Deed
		want int
	}{
		{"no kind", api.Deed{}, api.ErrKind},
		{"a kind beyond", api.Deed{Kind: 4, Label: "a"}, api.ErrKind},
		{"a kind below", api.Deed{Kind: -1, Label: "a"}, api.ErrKind},
		{"a name with At", api.Deed{Kind: api.DName, At: 1, Label: "a"}, api.ErrForm},
		{"a name with Many", api.Deed{Kind: api.DName, Many: 1, Label: "a"}, api.ErrForm},
		{"one away with At", api.Deed{Kind: api.DDelete, Path: []int{0}, At: 1}, api.ErrForm},
		{"one away with Many", api.Deed{Kind: api.DDelete, Path: []int{0}, Many: 1}, api.ErrForm},
		{"one away with a label", api.Deed{Kind: api.DDelete, Path: []int{0}, Label: "a"}, api.ErrForm},
		{"a path below 0", named("a", 0, -1), api.ErrRange},
		{"one away, a path below 0", deleted(-1, 0), api.ErrRange},
		{"one in, a path below 0", inserted("a", 0, 0, least), api.ErrRange},
		{"At below 0", inserted("a", -1, 0), api.ErrRange},
		{"Many below 0", inserted("a", 0, least), api.ErrRange},
		{"no label", named(""), api.ErrName},
		{"a label too long", named("abcdefg"), api.ErrName},
		{"a label of two words", named("a b"), api.ErrName},
		{"a label with a newline", inserted("a\n", 0, 0), api.ErrName},
		{"one in without a label", inserted("", 0, 0), api.ErrName},
		{"the root away", deleted(), api.ErrRoot},

		{"a path above 999", named("a", 1000), api.ErrRange},
		{"a path's last above 999", named("a", 0, 999, 1000), api.ErrRange},
		{"a path's first above 999", deleted(1000, 0), api.ErrRange},
		{"a path's middle above 999", deleted(0, most, 0), api.ErrRange},
		{"At above 999", inserted("a", 1000, 0), api.ErrRange},
		{"Many above 999", inserted("a", 0, 1000), api.ErrRange},
		{"a path above 999, one in", inserted("a", 0, 0, 1000), api.ErrRange},
		{"numbers as great as can be", inserted("a", most, most, most), api.ErrRange},
		{"a number whose low bits are few", inserted("a", 1<<32, 0), api.ErrRange},

		{"kind, above 999", api.Deed{Path: []int{1000}, Label: "a"}, api.ErrKind},
		{"kind, form, range, name", api.Deed{Kind: 4, Path: []int{-1}, At: -1}, api.ErrKind},
		{"form by a number above 999", api.Deed{Kind: api.DName, At: 1000, Label: "a"}, api.ErrForm},
		{"form beside a path above 999", api.Deed{Kind: api.DDelete, Path: []int{1000}, Label: "a"}, api.ErrForm},
		{"form, range", api.Deed{Kind: api.DName, Path: []int{-1}, Many: 1, Label: "a"}, api.ErrForm},
		{"form, name", api.Deed{Kind: api.DName, Many: 1}, api.ErrForm},
		{"form, root", api.Deed{Kind: api.DDelete, Label: "a"}, api.ErrForm},
		{"range, name", inserted("A", -1, 0), api.ErrRange},
		{"range, above 999", inserted("a", -1, 1000, 1000), api.ErrRange},
		{"name, a path above 999", named("A", 1000), api.ErrName},
		{"name, At above 999", inserted("", 1000, 0), api.ErrName},
		{"name, Many above 999", inserted("abcdefg", 0, most), api.ErrName},
	} {
		if line, code := patch.Line(c.d); line != "" || code != c.want {
			t.Errorf("Line of %s: %q, %d, want %d", c.what, line, code, c.want)
		}
		if s, f := patch.Print([]api.Deed{c.d}); s != "" || f != fault(c.want, 0) {
			t.Errorf("Print of %s: %q, %v, want %d at 0", c.what, s, f, c.want)
		}
		compareLine(t, c.d)
	}
}

// TestDeedForm: lines that are not such words.
func TestDeedForm(t *testing.T) {
	for _, s := range []string{
		"", " ", "  ", "\n", "\t", "-", "0", "a",
		"name", "name ", "name -", "name a", "name 0", "name - a b", "name - a ", "name -  a", "name  - a", " name - a", "name  a", "name -  ", "name   ",
		"delete", "delete ", "delete  0", " delete 0", "delete 0 ", "delete 0 a", "delete 0 1", "delete - ", "delete - a", "delete a",
		"insert", "insert - 0 0", "insert - 0 a", "insert - a", "insert - 0 0 a b", "insert - 0 0 a ", "insert - 0 0  a", "insert  - 0 0 a", "insert -  0 a", "insert - 0  a", " insert - 0 0 a", "insert - 0 0 0 a", "insert 0 0 a",
		"Name - a", "NAME - a", "nam - a", "names - a", "rename - a", "Delete 0", "remove 0", "inserted - 0 0 a", "name", "1 - a", "name- a", "name\x00 - a",
		"name\t- a", "name -\ta", "delete\t0", "delete\n0", "insert -\t0 0 a", "insert - 0\t0 a", "insert - 0 0\ta", "name\xc2\xa0- a", "name -\xc2\xa0a", "name\n- a", "name\r- a", "name\v- a", "name\x00- a", "delete.0",
		"name 00 a", "name 01 a", "name +1 a", "name -1 a", "name 1000 a", "name 0999 a", "name . a", "name .1 a", "name 1. a", "name 1..2 a", "name -.1 a", "name -- a", "name 1,2 a", "name a a", "name x a",
		"delete 00", "delete 01", "delete +1", "delete -1", "delete 1000", "delete 0999", "delete .", "delete .1", "delete 1.", "delete 1..2", "delete 1.01", "delete 0.1000", "delete 0\n", "delete \n0", "delete 0\r", "delete 0\x00", "delete --", "delete 99999999999999999999", "delete 9223372036854775807", "delete -9223372036854775808",
		"insert - 00 0 a", "insert - 01 0 a", "insert - +1 0 a", "insert - -1 0 a", "insert - -0 0 a", "insert - 1000 0 a", "insert - - 0 a", "insert - a 0 a", "insert - 0.0 0 a", "insert - 1. 0 a", "insert - 9223372036854775807 0 a", "insert - 18446744073709551616 0 a",
		"insert - 0 00 a", "insert - 0 01 a", "insert - 0 +1 a", "insert - 0 -1 a", "insert - 0 1000 a", "insert - 0 - a", "insert - 0 a a", "insert - 0 0. a", "insert - 0 -9223372036854775808 a", "insert - 0 18446744073709551617 a",
		"insert 01 0 0 a", "insert 1000 0 0 a", "insert a 0 0 a", "insert 1. 0 0 a",
		"name - a\nname - b c", "delete 0\ndelete 1", "name - a b\n", "insert -\n0 0 a",
		// What deed.Check would tell comes behind.
		"name 1000 A", "name 01 ", "insert 1000 0 0 A", "insert - 1000 0 A", "insert - 0 01 ", "insert - 0 1000 abcdefg", "delete -  ",
		strings.Repeat(" ", 100000), strings.Repeat("name ", 100000), "name - a" + strings.Repeat(" ", 100000),
	} {
		failsDeed(t, s, api.ErrForm)
	}
}

// TestDeedCheck: lines of such words that are no deed by deed.Check.
func TestDeedCheck(t *testing.T) {
	for s, want := range map[string]int{
		"name - A":                             api.ErrName,
		"name 0 abcdefg":                       api.ErrName,
		"name 0 0":                             api.ErrName,
		"name 0 -":                             api.ErrName,
		"name - ":                              api.ErrName,
		"name 0.1 ":                            api.ErrName,
		"name - a.b":                           api.ErrName,
		"name - a\n":                           api.ErrName,
		"name - \n":                            api.ErrName,
		"name - a\nname":                       api.ErrName,
		"name - a\tb":                          api.ErrName,
		"name - a\x00":                         api.ErrName,
		"name - \xff":                          api.ErrName,
		"name - \xc3\xa4":                      api.ErrName,
		"name - " + strings.Repeat("a", 99999): api.ErrName,
		"insert - 0 0 A":                       api.ErrName,
		"insert - 0 0 ":                        api.ErrName,
		"insert 1.2 999 999 a1":                api.ErrName,
		"insert - 0 0 a\n":                     api.ErrName,
		"insert - 0 0 abcdefg":                 api.ErrName,
		"delete -":                             api.ErrRoot,
	} {
		failsDeed(t, s, want)
	}
}

// failsDeed: is nothing but that code answered, by Deed and by Parse?
func failsDeed(t *testing.T, s string, want int) {
	t.Helper()
	if d, code := patch.Deed(s); code != want || !deed.Same(d, api.Deed{}) {
		t.Errorf("Deed(%.60q): %v, %d, want %d", s, d, code, want)
	}
	if _, code := reckonDeed(s); code != want {
		t.Errorf("Deed(%.60q): the second reckoning tells %d, want %d", s, code, want)
	}
	if !strings.Contains(s, "\n") {
		failsParse(t, s+"\n", fault(want, 0))
	}
}

// failsParse: is nothing but that fault answered?
func failsParse(t *testing.T, s string, want api.Fault) {
	t.Helper()
	if l, f := patch.Parse(s); f != want || len(l) != 0 {
		t.Errorf("Parse(%.60q): %v, %v, want %v", s, l, f, want)
	}
	if _, f := reckonParse(s); f != want {
		t.Errorf("Parse(%.60q): the second reckoning tells %v, want %v", s, f, want)
	}
}

// TestSameLine: two deeds have the same line just if they are the same.
func TestSameLine(t *testing.T) {
	var all []api.Deed
	for _, path := range [][]int{nil, {}, {0}, {1}, {10}, {1, 0}, {0, 1}, {100}, {1, 0, 0}, {10, 0}, {1, 10}, {999}, {9, 99}, {99, 9}} {
		for _, label := range []string{"a", "b", "ab", "name"} {
			all = append(all, named(label, path...))
			for _, at := range []int{0, 1, 10, 100} {
				for _, many := range []int{0, 1, 10, 100} {
					all = append(all, inserted(label, at, many, path...))
				}
			}
		}
		if len(path) > 0 {
			all = append(all, deleted(path...))
		}
	}
	for i, a := range all {
		lineA, code := patch.Line(a)
		if code != 0 {
			t.Fatalf("Line(%v): %d", a, code)
		}
		for _, b := range all[:i+1] {
			if lineB, _ := patch.Line(b); (lineA == lineB) != deed.Same(a, b) {
				t.Errorf("Line(%v): %q, Line(%v): %q", a, lineA, b, lineB)
			}
		}
	}
}

// TestPrintAndParse: no, one and several deeds, there and back.
func TestPrintAndParse(t *testing.T) {
	var l []api.Deed
	var s string
	for i := 0; ; i++ {
		if got, f := patch.Print(l); got != s || f != fault(0, 0) {
			t.Errorf("Print(%v): %q, %v, want %q", l, got, f, s)
		}
		if got, f := patch.Parse(s); !slices.EqualFunc(got, l, deed.Same) || f != fault(0, 0) {
			t.Errorf("Parse(%q): %v, %v, want %v", s, got, f, l)
		}
		if i == len(rights) {
			break
		}
		l, s = append(l, rights[i].d), s+rights[i].line+"\n"
	}
	if got, f := patch.Print([]api.Deed{}); got != "" || f != fault(0, 0) {
		t.Errorf("Print of no deeds: %q, %v", got, f)
	}
}

// TestPrintFaults: too many deeds, ahead of all that may be wrong with them,
// and the first of several wrong ones.
func TestPrintFaults(t *testing.T) {
	right := named("a", 1, 2)
	for _, c := range []struct {
		what string
		l    []api.Deed
		want api.Fault
	}{
		{"one more than MaxOps", slices.Repeat([]api.Deed{right}, api.MaxOps+1), fault(api.ErrMany, -1)},
		{"one more than MaxOps, none of them right", make([]api.Deed, api.MaxOps+1), fault(api.ErrMany, -1)},
		{"many more", slices.Repeat([]api.Deed{right}, 100*api.MaxOps), fault(api.ErrMany, -1)},
		{"MaxOps, none of them right", make([]api.Deed, api.MaxOps), fault(api.ErrKind, 0)},
		{"MaxOps, the last one wrong", append(slices.Repeat([]api.Deed{right}, api.MaxOps-1), deleted()), fault(api.ErrRoot, api.MaxOps-1)},
		{"the first", []api.Deed{{}, right}, fault(api.ErrKind, 0)},
		{"the second", []api.Deed{right, deleted(1000), right}, fault(api.ErrRange, 1)},
		{"the first of two", []api.Deed{right, deleted(1000), {}, right}, fault(api.ErrRange, 1)},
		{"the first of many", []api.Deed{right, right, deleted(), named(""), named("a", -1), {}}, fault(api.ErrRoot, 2)},
		{"the first of two of one code", []api.Deed{right, named(""), named("")}, fault(api.ErrName, 1)},
	} {
		if s, f := patch.Print(c.l); s != "" || f != c.want {
			t.Errorf("Print of %s: %q, %v, want %v", c.what, s, f, c.want)
		}
	}
	full := slices.Repeat([]api.Deed{right}, api.MaxOps)
	if s, f := patch.Print(full); s != strings.Repeat("name 1.2 a\n", api.MaxOps) || f != fault(0, 0) {
		t.Errorf("Print of MaxOps: %q, %v", s, f)
	}
}

// TestParseFaults: the last line not ended, ahead of all else; too many lines,
// ahead of what is wrong with one; the first of several wrong ones.
func TestParseFaults(t *testing.T) {
	lines := func(many int) string { return strings.Repeat("name 1.2 a\n", many) }
	for _, c := range []struct {
		s    string
		want api.Fault
	}{
		{"name - a", fault(api.ErrShort, 0)},
		{"x", fault(api.ErrShort, 0)},
		{" ", fault(api.ErrShort, 0)},
		{"name - a\r", fault(api.ErrShort, 0)},
		{"name - a\ndelete 0", fault(api.ErrShort, 1)},
		{"name - a\nx", fault(api.ErrShort, 1)},
		{"\nx", fault(api.ErrShort, 1)},
		{"\n\n ", fault(api.ErrShort, 2)},
		{"x\nname - a", fault(api.ErrShort, 1)},
		{"delete -\nname - A\nx", fault(api.ErrShort, 2)},
		{lines(api.MaxOps) + "x", fault(api.ErrShort, api.MaxOps)},
		{lines(api.MaxOps) + "name - a", fault(api.ErrShort, api.MaxOps)},
		{lines(api.MaxOps-1) + "name - a", fault(api.ErrShort, api.MaxOps-1)},
		{lines(api.MaxOps+1) + "name - a", fault(api.ErrShort, api.MaxOps+1)},
		{lines(10*api.MaxOps) + "x", fault(api.ErrShort, 10*api.MaxOps)},
		{"x\n" + lines(api.MaxOps) + "x", fault(api.ErrShort, api.MaxOps+1)},

		{lines(api.MaxOps + 1), fault(api.ErrMany, -1)},
		{lines(100 * api.MaxOps), fault(api.ErrMany, -1)},
		{lines(api.MaxOps) + "\n", fault(api.ErrMany, -1)},
		{"\n" + lines(api.MaxOps), fault(api.ErrMany, -1)},
		{"delete -\n" + lines(api.MaxOps), fault(api.ErrMany, -1)},
		{strings.Repeat("\n", api.MaxOps+1), fault(api.ErrMany, -1)},

		{strings.Repeat("\n", api.MaxOps), fault(api.ErrForm, 0)},
		{"\n", fault(api.ErrForm, 0)},
		{"name - a\n\n", fault(api.ErrForm, 1)},
		{"\nname - a\n", fault(api.ErrForm, 0)},
		{"name - a\r\n", fault(api.ErrName, 0)},
		{"delete 0\r\n", fault(api.ErrForm, 0)},
		{lines(api.MaxOps-1) + "delete -\n", fault(api.ErrRoot, api.MaxOps-1)},
		{"name - a\ndelete -\nname - A\nx\n", fault(api.ErrRoot, 1)},
		{"name - a\nname - b\nname - A\ndelete -\nx\n", fault(api.ErrName, 2)},
		{"x\ndelete -\nname - A\n", fault(api.ErrForm, 0)},
		{"delete -\nx\ndelete -\n", fault(api.ErrRoot, 0)},
	} {
		failsParse(t, c.s, c.want)
	}
	l, f := patch.Parse(lines(api.MaxOps))
	if !slices.EqualFunc(l, slices.Repeat([]api.Deed{named("a", 1, 2)}, api.MaxOps), deed.Same) || f != fault(0, 0) {
		t.Errorf("Parse of MaxOps lines: %v, %v", l, f)
	}
}

// TestLongPaths: a path is as long as you like, though no tree is so deep.
func TestLongPaths(t *testing.T) {
	long := make([]int, 100000)
	for i := range long {
		long[i] = i % 1000
	}
	text := patch.Path(long)
	if want := reckonPath(long); text != want {
		t.Fatal("Path of a long path is another one")
	}
	if back, ok := patch.ParsePath(text); !ok || !slices.Equal(back, long) {
		t.Error("ParsePath of a long path is another one")
	}
	for _, s := range []string{text + ".", text + ".1000", "01." + text, text + " "} {
		if back, ok := patch.ParsePath(s); ok || len(back) != 0 {
			t.Error("ParsePath of a long path that is none answers one")
		}
	}
	for _, d := range []api.Deed{named("a", long...), deleted(long...), inserted("a", 1, 2, long...)} {
		line, code := patch.Line(d)
		if want, _ := reckonLine(d); line != want || code != 0 {
			t.Errorf("Line of kind %d, a long path: %d", d.Kind, code)
		}
		if back, code := patch.Deed(line); code != 0 || !deed.Same(back, d) {
			t.Errorf("Deed of kind %d, a long path: %d", d.Kind, code)
		}
	}
	long[len(long)-1] = 1000
	if line, code := patch.Line(deleted(long...)); line != "" || code != api.ErrRange {
		t.Errorf("Line of a long path with 1000 at its end: %d", code)
	}
}

// TestExamples: the lines that the document shows.
func TestExamples(t *testing.T) {
	const want = "delete 0\ninsert - 1 1 e\n"
	l := []api.Deed{deleted(0), inserted("e", 1, 1)}
	if s, f := patch.Print(l); s != want || f != fault(0, 0) {
		t.Errorf("Print(%v): %q, %v", l, s, f)
	}
}

// TestAgain: what is answered hangs on the arguments alone, not on what was
// asked ahead.
func TestAgain(t *testing.T) {
	ask := func() string {
		var all []any
		tell := func(told ...any) { all = append(all, told...) }
		for _, c := range rights {
			line, code := patch.Line(c.d)
			d, back := patch.Deed(c.line)
			tell(line, code, d, back)
		}
		s, f := patch.Print([]api.Deed{rights[0].d, rights[5].d})
		l, g := patch.Parse("name - a\ndelete 1.2\nx\n")
		m, h := patch.Parse("name - a\ndelete 1.2\n")
		tell(s, f, l, g, m, h)
		return fmt.Sprint(all...)
	}
	first := ask()
	for range 3 {
		if again := ask(); again != first {
			t.Errorf("asked again it is %s, was %s", again, first)
		}
	}
}
