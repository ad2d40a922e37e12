package desk_test

import (
	"slices"
	"strings"
	"testing"
	"unsafe"

	"pleaching/api"
	"pleaching/desk"
)

// samples: lines of each kind, right ones and wrong ones, with labels of several
// bytes.
func samples() []string {
	return []string{
		"tree aaa(bbb ccc)", "tree aaa(xxx bbb ccc)", "tree qqq(bbb ccc yyy)", "tree rrr(bbb)", "tree aaa(", "tree", "",
		"do 0 name - zzz", "do 0 insert 0 0 0 ddd", "do 1 delete 0", "do 0 name - AAA", "do 0 delete 7", "do 77 name - zzz",
		"show 0", "show 4", "show 77", "diff 0 2", "diff 0 0", "step 1", "step 2", "step 0", "blame 2", "blame 77",
		"merge 0 1 2", "merge 0 2 3", "merge 0 0 77", "  many  ", "what", "show xxx", "   ",
	}
}

// roomy: a list of lines like those, in memory of its own, with kept behind it.
func roomy(lines []string) []string {
	long := append(slices.Clone(lines), "tree kept", "kept\n", "tree kept")
	return long[:len(lines):len(long)]
}

// unspoilt fails the test unless a list of roomy is as it was made.
func unspoilt(t *testing.T, lines, was []string) {
	t.Helper()
	if !slices.Equal(lines, was) {
		t.Errorf("the lines that were handed in changed: %q, was %q", lines, was)
	}
	if rest := lines[len(lines):cap(lines)]; !slices.Equal(rest, []string{"tree kept", "kept\n", "tree kept"}) {
		t.Errorf("behind the lines stands %q", rest)
	}
}

// TestLeavesAlone: the list of lines is not changed, with a fault neither, and
// what lies behind its length is no line.
func TestLeavesAlone(t *testing.T) {
	wrong := append(samples(), "tree\naaa", "tree aaa")
	full := slices.Repeat(samples(), 5)
	for _, was := range [][]string{nil, samples(), wrong, full, full[:1], slices.Repeat(samples(), 6)} {
		b := newBoth()
		for range 2 {
			lines := roomy(was)
			s, f := b.desk.Do(lines)
			if want, wanted := b.ledger.do(was); s != want || f != wanted {
				t.Errorf("Do(%q): %q, %v, want %q, %v", was, s, f, want, wanted)
			}
			unspoilt(t, lines, was)
		}
	}
	if len(full) != api.MaxLines {
		t.Errorf("the samples five times are %d lines, not MaxLines", len(full))
	}
}

// melted: lines like those, whose bytes can be written over, and these bytes.
func melted(lines []string) ([]string, [][]byte) {
	var soft []string
	var bytes [][]byte
	for _, line := range lines {
		b := []byte(line)
		soft, bytes = append(soft, unsafe.String(unsafe.SliceData(b), len(b))), append(bytes, b)
	}
	return soft, bytes
}

// TestKeepsNothing: what is done to the lines, and to their bytes, behind a Do
// changes neither what was told nor what is told then.
func TestKeepsNothing(t *testing.T) {
	b := newBoth()
	for range 2 {
		soft, bytes := melted(samples())
		s, f := b.desk.Do(soft)
		for i := range bytes {
			for j := range bytes[i] {
				bytes[i][j] = 'w'
			}
			soft[i] = "tree spoilt"
		}
		if want, wanted := b.ledger.do(samples()); s != want || f != wanted {
			t.Errorf("what was done to the lines changed what was told: %q, %v, want %q, %v", s, f, want, wanted)
		}
		b.all(t)
		b.do(t, samples()...)
	}
}

// room: memory from one address on to another.
type room struct{ from, to uintptr }

func textRoom(s string) room {
	from := uintptr(unsafe.Pointer(unsafe.StringData(s)))
	return room{from, from + uintptr(len(s))}
}

// TestShareNone: what is told shares no memory with a line, nor with what was
// told ahead.
func TestShareNone(t *testing.T) {
	d := desk.New()
	var all []string
	for range 2 {
		for _, line := range samples() {
			line = strings.Clone(line)
			s, f := d.Do([]string{line})
			if f != fault(0, 0) {
				t.Errorf("Do(%q): %v", line, f)
			}
			all = append(all, line, s)
		}
		lines := samples()
		s, _ := d.Do(lines)
		all = append(all, s)
	}
	for i, a := range all {
		for _, b := range all[:i] {
			if x, y := textRoom(a), textRoom(b); x.from < y.to && y.from < x.to {
				t.Errorf("%.60q and %.60q share memory", a, b)
			}
		}
	}
}
