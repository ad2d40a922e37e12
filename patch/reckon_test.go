package patch_test

import (
	"fmt"
	"regexp"
	"slices"
	"strings"
	"testing"

	"pleaching/api"
	"pleaching/deed"
	"pleaching/patch"
)

// The second reckoning: lines by patterns, what they tell by fmt, and the codes
// by all that is wrong, in the chapter's order.
const (
	numberPattern = `(?:0|[1-9]|[1-9][0-9]|[1-9][0-9][0-9])`
	pathPattern   = `(-|` + numberPattern + `(?:\.` + numberPattern + `)*)`
)

var (
	pathLine   = regexp.MustCompile(`\A` + pathPattern + `\z`)
	nameLine   = regexp.MustCompile(`\Aname ` + pathPattern + ` ([^ ]*)\z`)
	deleteLine = regexp.MustCompile(`\Adelete ` + pathPattern + `\z`)
	insertLine = regexp.MustCompile(`\Ainsert ` + pathPattern + ` (` + numberPattern + `) (` + numberPattern + `) ([^ ]*)\z`)
	labelWord  = regexp.MustCompile(`\A[a-z]{1,6}\z`)
)

// scanned: the number that a word of digits tells.
func scanned(word string) int {
	n := 0
	if _, err := fmt.Sscanf(word, "%d", &n); err != nil {
		panic(err)
	}
	return n
}

// reckonPath: the text of a path.
func reckonPath(l []int) string {
	if len(l) == 0 {
		return "-"
	}
	return strings.ReplaceAll(strings.Trim(fmt.Sprint(l), "[]"), " ", ".")
}

// reckonNumbers: the path of a text that has that pattern.
func reckonNumbers(s string) []int {
	var l []int
	for _, word := range strings.FieldsFunc(s, func(r rune) bool { return r == '.' || r == '-' }) {
		l = append(l, scanned(word))
	}
	return l
}

// reckonCheck: the first code of deed.Check that is so, by the words of its
// chapter.
func reckonCheck(d api.Deed) int {
	below := d.At < 0 || d.Many < 0 || len(d.Path) > 0 && slices.Min(d.Path) < 0
	switch insert, remove := d.Kind == api.DInsert, d.Kind == api.DDelete; {
	case d.Kind < api.DName || d.Kind > api.DInsert:
		return api.ErrKind
	case (d.At != 0 || d.Many != 0) && !insert, d.Label != "" && remove:
		return api.ErrForm
	case below:
		return api.ErrRange
	case !labelWord.MatchString(d.Label) && !remove:
		return api.ErrName
	case remove && len(d.Path) == 0:
		return api.ErrRoot
	}
	return 0
}

// reckonLine: the line of a deed, and its code.
func reckonLine(d api.Deed) (string, int) {
	if code := reckonCheck(d); code != 0 {
		return "", code
	}
	if slices.Max(append([]int{d.At, d.Many}, d.Path...)) > 999 {
		return "", api.ErrRange
	}
	path := reckonPath(d.Path)
	switch d.Kind {
	case api.DName:
		return fmt.Sprintf("name %s %s", path, d.Label), 0
	case api.DDelete:
		return fmt.Sprintf("delete %s", path), 0
	default:
		return fmt.Sprintf("insert %s %d %d %s", path, d.At, d.Many, d.Label), 0
	}
}

// reckonDeed: the deed of a line, and its code.
func reckonDeed(s string) (api.Deed, int) {
	var d api.Deed
	if m := nameLine.FindStringSubmatch(s); m != nil {
		d = api.Deed{Kind: api.DName, Path: reckonNumbers(m[1]), Label: m[2]}
	} else if m := deleteLine.FindStringSubmatch(s); m != nil {
		d = api.Deed{Kind: api.DDelete, Path: reckonNumbers(m[1])}
	} else if m := insertLine.FindStringSubmatch(s); m != nil {
		d = api.Deed{Kind: api.DInsert, Path: reckonNumbers(m[1]), At: scanned(m[2]), Many: scanned(m[3]), Label: m[4]}
	} else {
		return api.Deed{}, api.ErrForm
	}
	if code := reckonCheck(d); code != 0 {
		return api.Deed{}, code
	}
	return d, 0
}

// reckonPrint: the lines of deeds, and the fault.
func reckonPrint(l []api.Deed) (string, api.Fault) {
	if len(l) > 80 {
		return "", fault(api.ErrMany, -1)
	}
	all := ""
	for i, d := range l {
		line, code := reckonLine(d)
		if code != 0 {
			return "", fault(code, i)
		}
		all += line + "\n"
	}
	return all, api.Fault{}
}

// reckonParse: the deeds of lines, and the fault.
func reckonParse(s string) ([]api.Deed, api.Fault) {
	lines := strings.SplitAfter(s, "\n")
	if last := len(lines) - 1; lines[last] != "" {
		return nil, fault(api.ErrShort, last)
	}
	lines = lines[:len(lines)-1]
	if len(lines) > 80 {
		return nil, fault(api.ErrMany, -1)
	}
	var all []api.Deed
	for i, line := range lines {
		d, code := reckonDeed(line[:len(line)-1])
		if code != 0 {
			return nil, fault(code, i)
		}
		all = append(all, d)
	}
	return all, api.Fault{}
}

// comparePath holds ParsePath of a text against the second reckoning, and Path
// of its answer against the text.
func comparePath(t *testing.T, s string) {
	t.Helper()
	l, ok := patch.ParsePath(s)
	if want := pathLine.MatchString(s); ok != want {
		t.Errorf("ParsePath(%q): %v, want %v", s, ok, want)
		return
	}
	if !ok {
		if len(l) != 0 {
			t.Errorf("ParsePath(%q): there is none, but it answers %v", s, l)
		}
		return
	}
	if want := reckonNumbers(s); !slices.Equal(l, want) {
		t.Errorf("ParsePath(%q): %v, want %v", s, l, want)
	}
	if back := patch.Path(l); back != s {
		t.Errorf("Path(%v): %q, want %q", l, back, s)
	}
}

// compareLine holds Line of a deed against the second reckoning, and Deed of
// its answer against the deed.
func compareLine(t *testing.T, d api.Deed) {
	t.Helper()
	line, code := patch.Line(d)
	if want, wanted := reckonLine(d); line != want || code != wanted {
		t.Errorf("Line(%v): %q, %d, want %q, %d", d, line, code, want, wanted)
		return
	}
	if code != 0 {
		return
	}
	if back, code := patch.Deed(line); code != 0 || !deed.Same(back, d) {
		t.Errorf("Deed(%q): %v, %d, want %v", line, back, code, d)
	}
}

// compareDeed holds Deed of a line against the second reckoning, and Line of
// its answer against the line.
func compareDeed(t *testing.T, s string) {
	t.Helper()
	d, code := patch.Deed(s)
	if want, wanted := reckonDeed(s); !deed.Same(d, want) || code != wanted {
		t.Errorf("Deed(%q): %v, %d, want %v, %d", s, d, code, want, wanted)
		return
	}
	if code != 0 {
		return
	}
	if back, code := patch.Line(d); code != 0 || back != s {
		t.Errorf("Line(%v): %q, %d, want %q", d, back, code, s)
	}
}

// comparePrint holds Print of deeds against the second reckoning, and Parse of
// its answer against the deeds.
func comparePrint(t *testing.T, l []api.Deed) {
	t.Helper()
	s, f := patch.Print(l)
	if want, wanted := reckonPrint(l); s != want || f != wanted {
		t.Errorf("Print(%v): %q, %v, want %q, %v", l, s, f, want, wanted)
		return
	}
	if f.Code != 0 {
		return
	}
	if back, f := patch.Parse(s); f != fault(0, 0) || !slices.EqualFunc(back, l, deed.Same) {
		t.Errorf("Parse(%q): %v, %v, want %v", s, back, f, l)
	}
}

// compareParse holds Parse of lines against the second reckoning, and Print of
// its answer against the lines.
func compareParse(t *testing.T, s string) {
	t.Helper()
	l, f := patch.Parse(s)
	if want, wanted := reckonParse(s); !slices.EqualFunc(l, want, deed.Same) || f != wanted {
		t.Errorf("Parse(%q): %v, %v, want %v, %v", s, l, f, want, wanted)
		return
	}
	if f.Code != 0 {
		return
	}
	if back, f := patch.Print(l); f != fault(0, 0) || back != s {
		t.Errorf("Print(%v): %q, %v, want %q", l, back, f, s)
	}
}

// texts: does something with each text of up to so many of these pieces.
func texts(pieces []string, most int, do func(s string)) {
	var grow func(s string, left int)
	grow = func(s string, left int) {
		do(s)
		if left == 0 {
			return
		}
		for _, piece := range pieces {
			grow(s+piece, left-1)
		}
	}
	grow("", most)
}

// TestAllPaths: all texts of up to six bytes out of those that matter, all of
// up to two bytes whatever, and all numbers from 0 on to beyond four digits.
func TestAllPaths(t *testing.T) {
	texts(strings.Split("0 1 9 . - +", " "), 6, func(s string) { comparePath(t, s) })
	for a := range 256 {
		comparePath(t, string([]byte{byte(a)}))
		for b := range 256 {
			comparePath(t, string([]byte{byte(a), byte(b)}))
			comparePath(t, string([]byte{'1', byte(a), '2', byte(b)}))
		}
	}
	for n := range 12000 {
		for _, form := range []string{"%d", "0.%d", "%d.0", "-%d", "+%d", "%02d", "%04d", "%d.", ".%d", "%x"} {
			comparePath(t, fmt.Sprintf(form, n))
		}
	}
}

// TestAllLines: all lines of up to five words out of those that matter, and all
// of six that begin as an insert does.
func TestAllLines(t *testing.T) {
	blank := func(words string) []string {
		all := strings.Split(words, " ")
		for i := range all {
			all[i] = " " + all[i]
		}
		return all
	}
	for _, first := range []string{"", "name", "delete", "insert", "Name", "nam", "names", "-", "0", "a"} {
		texts(blank("name - 0 999 1000 01 0.10 a A "), 4, func(s string) { compareDeed(t, first+s) })
	}
	for _, start := range []string{"insert -", "insert 0.1", "insert 1000"} {
		texts(blank("- 0 999 1000 a A "), 4, func(s string) { compareDeed(t, start+s) })
	}
}

// rightLines: lines of each kind, with paths and numbers of each length.
func rightLines() []string {
	return []string{
		"name - a", "name 0 abcdef", "name 10.0.999 b",
		"delete 0", "delete 100", "delete 1.20.300",
		"insert - 0 0 a", "insert 7 10 0 ab", "insert 0.99 999 100 abcdef",
	}
}

// TestSpoiltLines: right lines, one or two of whose bytes went, came, or became
// others.
func TestSpoiltLines(t *testing.T) {
	everything := make([]byte, 256)
	for i := range everything {
		everything[i] = byte(i)
	}
	for _, line := range rightLines() {
		spoilt(line, everything, func(s string) {
			compareDeed(t, s)
			compareParse(t, s+"\n")
		})
		spoilt(line, []byte(" .-0A\n"), func(s string) {
			spoilt(s, []byte(" .-01aA\n\t+"), func(s string) { compareDeed(t, s) })
		})
	}
}

// spoilt: does something with a text without each of its bytes, and with each
// of these bytes ahead of, behind and in the place of each.
func spoilt(s string, others []byte, do func(s string)) {
	for i := range len(s) + 1 {
		if i < len(s) {
			do(s[:i] + s[i+1:])
		}
		for _, other := range others {
			do(s[:i] + string([]byte{other}) + s[i:])
			if i < len(s) {
				do(s[:i] + string([]byte{other}) + s[i+1:])
			}
		}
	}
}

// numbers: those at the edges that the document names, just beside them, and
// as far off as an int goes.
func numbers() []int {
	return []int{least, least + 1, -1 << 32, -1000, -1, 0, 1, 9, 10, 11, 99, 100, 101, 998, 999, 1000, 1001, 1 << 32, 1<<32 + 1, most - 1, most}
}

// TestAllDeeds: deeds of each kind, and of none, with all of these numbers in
// At, Many and the path, with labels that are none, too.
func TestAllDeeds(t *testing.T) {
	labels := []string{"", "a", "z", "abcdef", "abcdefg", "A", "a b", "a\n", "-", "\xff"}
	for _, kind := range []int{least, -1, 0, api.DName, api.DDelete, api.DInsert, 4, 1<<32 + api.DName, most} {
		for _, n := range numbers() {
			for _, label := range labels {
				for _, path := range [][]int{nil, {}, {n}, {n, 3}, {3, n}, {3, n, 4}, {3, 0, 0}} {
					compareLine(t, api.Deed{Kind: kind, Path: path, Label: label})
					compareLine(t, api.Deed{Kind: kind, Path: path, At: n, Label: label})
					compareLine(t, api.Deed{Kind: kind, Path: path, Many: n, Label: label})
					compareLine(t, api.Deed{Kind: kind, Path: path, At: 7, Many: n, Label: label})
					compareLine(t, api.Deed{Kind: kind, Path: path, At: n, Many: 7, Label: label})
				}
			}
		}
	}
}

// TestAllNumbers: all numbers from just below 0 on to beyond the greatest, in
// each place that a deed has for one, and in each that a line has.
func TestAllNumbers(t *testing.T) {
	for n := -20; n <= 1020; n++ {
		compareLine(t, named("a", n))
		compareLine(t, deleted(0, n, 1))
		compareLine(t, inserted("a", n, 0))
		compareLine(t, inserted("a", 0, n))
		compareLine(t, inserted("a", n, n, n, n))
		for _, form := range []string{"name %d a", "delete %d", "delete 0.%d.1", "insert - %d 0 a", "insert - 0 %d a", "insert %d 0 0 a", "name - %d", "insert - 0 0 %d", "insert - 0%d 0 a", "insert - 0 +%d a"} {
			compareDeed(t, fmt.Sprintf(form, n))
		}
	}
}

// TestAllLists: all lists of up to five deeds, right ones and wrong ones, and
// all texts of up to five lines, ended or not.
func TestAllLists(t *testing.T) {
	some := []api.Deed{named("a"), deleted(1, 2), inserted("b", 10, 999, 3), deleted(), deleted(1000), named("A"), {}}
	var grow func(l []api.Deed)
	grow = func(l []api.Deed) {
		comparePrint(t, l)
		if len(l) == 5 {
			return
		}
		for _, d := range some {
			grow(append(slices.Clone(l), d))
		}
	}
	grow(nil)
	texts([]string{"name - a\n", "delete 1.2\n", "insert 3 10 999 b\n", "delete -\n", "name - A\n", "name 01 A\n", "\n", "name - a"}, 5, func(s string) { compareParse(t, s) })
}

// TestLongLists: as many deeds and lines as may be, one fewer and more, all
// right, with one that is wrong at each place, and with the last not ended.
func TestLongLists(t *testing.T) {
	for _, many := range []int{1, 2, api.MaxOps - 1, api.MaxOps, api.MaxOps + 1, api.MaxOps + 2, 3 * api.MaxOps} {
		var l []api.Deed
		var lines []string
		for i := range many {
			d := []api.Deed{named("a", i), deleted(i, 999), inserted("b", i, 10*i%1000)}[i%3]
			line, _ := reckonLine(d)
			l, lines = append(l, d), append(lines, line)
		}
		whole := strings.Join(lines, "\n") + "\n"
		comparePrint(t, l)
		compareParse(t, whole)
		compareParse(t, whole[:len(whole)-1])
		compareParse(t, whole+" ")
		compareParse(t, whole+"\n")
		for i := range many {
			wrong := slices.Clone(l)
			wrong[i] = deleted()
			comparePrint(t, wrong)
			spoilt := slices.Clone(lines)
			spoilt[i] = "delete -"
			compareParse(t, strings.Join(spoilt, "\n")+"\n")
			compareParse(t, strings.Join(spoilt, "\n"))
		}
	}
}
