package patch_test

import (
	"slices"
	"strings"
	"testing"
	"unsafe"

	"pleaching/api"
	"pleaching/deed"
	"pleaching/patch"
)

// scripts: lists of deeds, right ones and wrong ones.
func scripts() [][]api.Deed {
	return [][]api.Deed{
		nil,
		{named("abc", 1, 20)},
		{deleted(3)},
		{inserted("xyz", 1, 2, 3, 4)},
		{named("abc"), deleted(3, 4), inserted("xyz", 1, 2), inserted("uvw", 0, 999, 5), named("abc", 6, 7)},
		{named("abc", 1), deleted(), named("abc", 1)},
		{named("abc", 1000), {}},
		{api.Deed{Kind: 9, Path: []int{1, 2}, At: -1, Many: 5, Label: "B"}},
		slices.Repeat([]api.Deed{named("abc", 1)}, api.MaxOps+1),
	}
}

// roomyPath: a path like that, in memory of its own, with 77 behind it.
func roomyPath(path []int) []int {
	long := append(slices.Clone(path), 77, 77, 77)
	return long[:len(path):len(long)]
}

// roomyDeeds: deeds like those, in memory of their own, with 77 behind each
// path, and deeds kept behind the list.
func roomyDeeds(l []api.Deed) []api.Deed {
	long := make([]api.Deed, 0, len(l)+2)
	for _, d := range l {
		d.Path, d.Label = roomyPath(d.Path), strings.Clone(d.Label)
		long = append(long, d)
	}
	long = append(long, named("kept", 66), named("kept", 66))
	return long[:len(l)]
}

// unspoilt fails the test unless deeds of roomyDeeds are as they were made.
func unspoilt(t *testing.T, what string, l, was []api.Deed) {
	t.Helper()
	if !slices.EqualFunc(l, was, deed.Same) {
		t.Errorf("%s changed the deeds that were handed in: %v, was %v", what, l, was)
	}
	for _, d := range l {
		unspoiltPath(t, what, d.Path)
	}
	if rest := l[len(l) : len(l)+2]; !slices.EqualFunc(rest, []api.Deed{named("kept", 66), named("kept", 66)}, deed.Same) {
		t.Errorf("%s wrote behind the deeds: %v", what, rest)
	}
}

// unspoiltPath fails the test unless 77 stands behind a path of roomyPath.
func unspoiltPath(t *testing.T, what string, path []int) {
	t.Helper()
	if slices.ContainsFunc(path[len(path):cap(path)], func(n int) bool { return n != 77 }) {
		t.Errorf("%s wrote behind a path: %v", what, path[:cap(path)])
	}
}

// spoilPath writes over a path, and behind it, as far as its memory goes.
func spoilPath(path []int) {
	path = path[:cap(path)]
	for i := range path {
		path[i] = 55
	}
}

// spoil does so to deeds and their paths.
func spoil(l []api.Deed) {
	for _, d := range l {
		spoilPath(d.Path)
	}
	l = l[:cap(l)]
	for i := range l {
		l[i] = named("spoilt", 5)
	}
}

// TestLeavesAlone: nothing that is handed in is changed, and what lies behind a
// list's length is neither a deed nor a number.
func TestLeavesAlone(t *testing.T) {
	for _, was := range scripts() {
		l := roomyDeeds(was)
		s, f := patch.Print(l)
		unspoilt(t, "Print", l, was)
		if want, wanted := reckonPrint(was); s != want || f != wanted {
			t.Errorf("Print(%v): %q, %v, want %q, %v", was, s, f, want, wanted)
		}
		for i, d := range l {
			line, code := patch.Line(d)
			path := patch.Path(d.Path)
			unspoilt(t, "Line or Path", l, was)
			if want, wanted := reckonLine(was[i]); line != want || code != wanted {
				t.Errorf("Line(%v): %q, %d, want %q, %d", was[i], line, code, want, wanted)
			}
			if want := reckonPath(was[i].Path); path != want {
				t.Errorf("Path(%v): %q, want %q", was[i].Path, path, want)
			}
		}
	}
	for _, path := range [][]int{nil, {0}, {1, 2, 3}, {-1, 1000}} {
		l := roomyPath(path)
		if got, want := patch.Path(l), reckonPath(path); got != want || !slices.Equal(l, path) {
			t.Errorf("Path(%v): %q, want %q; the path is %v", path, got, want, l)
		}
		unspoiltPath(t, "Path", l)
	}
}

// TestKeepsNothing: what is done to what was handed in, or answered, changes
// neither what was answered ahead nor what is answered then.
func TestKeepsNothing(t *testing.T) {
	for _, was := range scripts() {
		l := roomyDeeds(was)
		s, f := patch.Print(l)
		spoil(l)
		if want, wanted := reckonPrint(was); s != want || f != wanted {
			t.Errorf("what was done to the deeds changed the answer of Print(%v): %q, %v", was, s, f)
		}
		if f.Code != 0 {
			continue
		}
		for range 2 {
			back, f := patch.Parse(s)
			if f != fault(0, 0) || !slices.EqualFunc(back, was, deed.Same) {
				t.Errorf("Parse(%q): %v, %v, want %v", s, back, f, was)
			}
			spoil(back)
		}
	}
	for _, c := range rights {
		for range 2 {
			d, code := patch.Deed(c.line)
			if code != 0 || !deed.Same(d, c.d) {
				t.Errorf("Deed(%q): %v, %d, want %v", c.line, d, code, c.d)
			}
			spoilPath(d.Path)
		}
	}
	for range 2 {
		l, ok := patch.ParsePath("1.20.300")
		if !ok || !slices.Equal(l, []int{1, 20, 300}) {
			t.Errorf("ParsePath: %v, %v", l, ok)
		}
		spoilPath(l)
		none, ok := patch.ParsePath("-")
		if !ok || len(none) != 0 {
			t.Errorf("ParsePath: %v, %v", none, ok)
		}
		spoilPath(none)
	}
}

// TestOtherDeedsOfAnAnswer: what is done to one deed of an answer, and behind
// its path, does not change the others.
func TestOtherDeedsOfAnAnswer(t *testing.T) {
	was := []api.Deed{named("abc", 1), deleted(2, 3), inserted("xyz", 4, 5, 6, 7, 8), deleted(9)}
	s, _ := patch.Print(was)
	for i := range was {
		l, _ := patch.Parse(s)
		spoilPath(l[i].Path)
		l[i] = was[i]
		if !slices.EqualFunc(l, was, deed.Same) {
			t.Errorf("what was done to the path of deed %d changed others: %v", i, l)
		}
	}
}

// room: memory from one address on to another.
type room struct{ from, to uintptr }

func textRoom(s string) room {
	from := uintptr(unsafe.Pointer(unsafe.StringData(s)))
	return room{from, from + uintptr(len(s))}
}

// listRoom: where a list lies, all its memory.
func listRoom[T any](l []T) room {
	var one T
	from := uintptr(unsafe.Pointer(unsafe.SliceData(l)))
	return room{from, from + uintptr(cap(l))*unsafe.Sizeof(one)}
}

// rooms: where deeds, their paths and their labels lie. (A label of one byte
// may lie with all others of that byte, as the language has them.)
func rooms(l []api.Deed) []room {
	all := []room{listRoom(l)}
	for _, d := range l {
		all = append(all, listRoom(d.Path), textRoom(d.Label))
	}
	return all
}

// apart fails the test if two of these share memory.
func apart(t *testing.T, what string, all []room) {
	t.Helper()
	for i, a := range all {
		for _, b := range all[:i] {
			if a.from < b.to && b.from < a.to {
				t.Errorf("%s: memory is shared", what)
			}
		}
	}
}

// TestShareNone: no two lists of an answer share memory, and none does with an
// argument, nor does a text.
func TestShareNone(t *testing.T) {
	for _, was := range scripts() {
		l := roomyDeeds(was)
		s, f := patch.Print(l)
		if f.Code != 0 {
			continue
		}
		back, _ := patch.Parse(s)
		apart(t, "Print or Parse of "+s, slices.Concat(rooms(l), []room{textRoom(s)}, rooms(back)))
		for _, d := range l {
			line, _ := patch.Line(d)
			back, _ := patch.Deed(line)
			text := patch.Path(d.Path)
			path, _ := patch.ParsePath(text)
			apart(t, "Line or Deed of "+line, slices.Concat(rooms([]api.Deed{d}), []room{textRoom(line)}, rooms([]api.Deed{back})))
			apart(t, "ParsePath of "+text, []room{listRoom(d.Path), listRoom(path), listRoom(back.Path)})
		}
	}
}
