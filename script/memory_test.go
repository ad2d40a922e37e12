package script_test

import (
	"slices"
	"strings"
	"testing"
	"unsafe"

	"pleaching/api"
	"pleaching/deed"
	"pleaching/script"
	"pleaching/tree"
)

// sample: a tree with leaves and inner nodes, its labels in new memory.
func sample() api.Tree {
	l := func(s string) string { return strings.Repeat(s, 3) }
	return n(l("a"), n(l("b"), n(l("c")), n(l("d"))), n(l("e")), n(l("f"), n(l("g"), n(l("h")), n(l("i"))), n(l("j"))))
}

// other: a tree that the sample becomes by deeds of all kinds.
func other() api.Tree {
	l := func(s string) string { return strings.Repeat(s, 3) }
	return n(l("q"), n(l("c")), n(l("x"), n(l("d")), n(l("e"))), n(l("y"), n(l("g"), n(l("h")), n(l("z")), n(l("i")))), n(l("j")))
}

// samples: trees to tell apart, in new memory.
func samples() []api.Tree {
	label := func(s string) string { return strings.Repeat(s, 3) }
	return []api.Tree{sample(), other(), n(label("a")), n(label("x"), sample()), n(label("a"), n(label("f"), sample().Kids...))}
}

// scripts to be run on the sample: none, one deed, some; and some that can't be.
func scripts() [][]api.Deed {
	return [][]api.Deed{
		nil,
		list(named("xyz", 2, 0)),
		list(deleted(2)),
		list(inserted("xyz", 0, 2)),
		list(named("xyz"), deleted(2), inserted("uvw", 1, 2), named("rst", 1, 0), inserted("opq", 0, 0, 1, 0), deleted(0, 1)),
		list(inserted("xyz", 0, 3), deleted(0, 2, 0), deleted(0), named("uvw", 2, 1)),
		list(named("xyz"), deleted(0), deleted(9)),
		list(api.Deed{}, named("xyz")),
		slices.Repeat(list(named("xyz", 0, 0)), api.MaxOps+1),
	}
}

// roomy: a tree like that, each list with memory behind it, in which kept
// stands; and those memories.
func roomy(t api.Tree) (api.Tree, [][]api.Tree) {
	var all [][]api.Tree
	var give func(t api.Tree) api.Tree
	give = func(t api.Tree) api.Tree {
		kids := make([]api.Tree, 0, len(t.Kids)+2)
		for _, k := range t.Kids {
			kids = append(kids, give(k))
		}
		all = append(all, append(kids, n("kept"), n("kept")))
		return n(t.Label, kids...)
	}
	return give(t), all
}

// roomyDeeds: deeds like those, in memory of their own, with 77 behind each
// path, and a deed kept behind the list.
func roomyDeeds(l []api.Deed) []api.Deed {
	long := make([]api.Deed, 0, len(l)+2)
	for _, d := range l {
		path := append(slices.Clone(d.Path), 77, 77, 77)
		d.Path = path[:len(d.Path):len(path)]
		d.Label = strings.Clone(d.Label)
		long = append(long, d)
	}
	long = append(long, named("kept", 66), named("kept", 66))
	return long[:len(l)]
}

// unspoilt fails the test unless a tree of roomy is as it was made.
func unspoilt(t *testing.T, what string, x, was api.Tree, all [][]api.Tree) {
	t.Helper()
	if !tree.Same(x, was) {
		t.Errorf("%s changed the tree that was handed in: %v", what, x)
	}
	for _, long := range all {
		if rest := long[len(long)-2:]; rest[0].Label != "kept" || rest[1].Label != "kept" || rest[0].Kids != nil || rest[1].Kids != nil {
			t.Errorf("%s wrote behind a list: %v", what, rest)
		}
	}
}

// unspoiltDeeds fails the test unless deeds of roomyDeeds are as they were made.
func unspoiltDeeds(t *testing.T, what string, l, was []api.Deed) {
	t.Helper()
	if !sameDeeds(l, was) {
		t.Errorf("%s changed the deeds that were handed in: %v", what, l)
	}
	for _, d := range l {
		if slices.ContainsFunc(d.Path[len(d.Path):cap(d.Path)], func(n int) bool { return n != 77 }) {
			t.Errorf("%s wrote behind a path: %v", what, d.Path[:cap(d.Path)])
		}
	}
	if rest := l[len(l) : len(l)+2]; !sameDeeds(rest, list(named("kept", 66), named("kept", 66))) {
		t.Errorf("%s wrote behind the deeds: %v", what, rest)
	}
}

// spoil gives each node another label, and writes over each list, and behind
// it, as far as its memory goes.
func spoil(t *api.Tree) {
	t.Label = "spoilt"
	for i := range t.Kids {
		spoil(&t.Kids[i])
	}
	rest := t.Kids[len(t.Kids):cap(t.Kids)]
	for i := range rest {
		rest[i] = n("spoilt")
	}
}

// spoilDeeds does so to deeds and their paths.
func spoilDeeds(l []api.Deed) {
	long := l[:cap(l)]
	for i, d := range long {
		path := d.Path[:cap(d.Path)]
		for j := range path {
			path[j] = 55
		}
		long[i] = api.Deed{Kind: -1, Path: []int{55}, At: 5, Many: 5, Label: "spoilt"}
	}
}

// TestRunLeavesAlone: nothing that is handed in is changed, neither by a call
// nor by what is done to its answer.
func TestRunLeavesAlone(t *testing.T) {
	for _, was := range scripts() {
		x, all := roomy(sample())
		l := roomyDeeds(was)
		y, back, _ := script.Run(x, l)
		unspoilt(t, "Run", x, sample(), all)
		unspoiltDeeds(t, "Run", l, was)
		spoil(&y)
		spoilDeeds(back)
		unspoilt(t, "what was done to the answer of Run", x, sample(), all)
		unspoiltDeeds(t, "what was done to the answer of Run", l, was)
	}
}

// TestRunKeepsNothing: what is done to what was handed in does not change what
// was answered; and what lies behind a list's length changes nothing.
func TestRunKeepsNothing(t *testing.T) {
	for _, was := range scripts() {
		x, _ := roomy(sample())
		l := roomyDeeds(was)
		y, back, fault := script.Run(x, l)
		spoil(&x)
		spoilDeeds(l)
		want, undo, wanted := script.Run(sample(), was)
		if fault != wanted || !tree.Same(y, want) || !sameDeeds(back, undo) {
			t.Errorf("Run(%v): %v, %v, %v, want %v, %v, %v", was, y, back, fault, want, undo, wanted)
		}
	}
}

// TestDiffLeavesAlone: the same of Diff.
func TestDiffLeavesAlone(t *testing.T) {
	for i, a := range samples() {
		for j, b := range samples() {
			x, first := roomy(a)
			y, second := roomy(b)
			l, _ := script.Diff(x, y)
			unspoilt(t, "Diff", x, samples()[i], first)
			unspoilt(t, "Diff", y, samples()[j], second)
			spoilDeeds(l)
			unspoilt(t, "what was done to the answer of Diff", x, samples()[i], first)
			unspoilt(t, "what was done to the answer of Diff", y, samples()[j], second)
		}
	}
}

// TestDiffKeepsNothing: the same of Diff.
func TestDiffKeepsNothing(t *testing.T) {
	for _, a := range samples() {
		for _, b := range samples() {
			want := diff(a, b)
			x, _ := roomy(a)
			y, _ := roomy(b)
			l, code := script.Diff(x, y)
			spoil(&x)
			spoil(&y)
			if code != 0 || !sameDeeds(l, want) {
				t.Errorf("Diff(%v, %v): %v, %d, want %v", a, b, l, code, want)
			}
		}
	}
}

// room: memory from one address on to another.
type room struct{ from, to uintptr }

// listRoom: all memory of a list.
func listRoom[T interface{ int | api.Tree | api.Deed }](l []T) room {
	var one T
	from := uintptr(unsafe.Pointer(unsafe.SliceData(l)))
	return room{from, from + uintptr(cap(l))*unsafe.Sizeof(one)}
}

func labelRoom(s string) room {
	from := uintptr(unsafe.Pointer(unsafe.StringData(s)))
	return room{from, from + uintptr(len(s))}
}

// rooms: where the lists of a tree lie.
func rooms(t api.Tree) []room {
	all := []room{listRoom(t.Kids)}
	for _, kid := range t.Kids {
		all = append(all, rooms(kid)...)
	}
	return all
}

// deedRooms: where a list of deeds and their paths lie.
func deedRooms(l []api.Deed) []room {
	all := []room{listRoom(l)}
	for _, d := range l {
		all = append(all, listRoom(d.Path))
	}
	return all
}

// labels: where those of a tree lie.
func labels(t api.Tree) []room {
	all := []room{labelRoom(t.Label)}
	for _, kid := range t.Kids {
		all = append(all, labels(kid)...)
	}
	return all
}

func deedLabels(l []api.Deed) []room {
	var all []room
	for _, d := range l {
		all = append(all, labelRoom(d.Label))
	}
	return all
}

func meet(a, b room) bool {
	return a.from < b.to && b.from < a.to
}

// alone fails the test if two of these rooms meet.
func alone(t *testing.T, what string, all []room) {
	t.Helper()
	for i, a := range all {
		if slices.ContainsFunc(all[:i], func(b room) bool { return meet(a, b) }) {
			t.Errorf("%s: lists share memory", what)
		}
	}
}

// apart fails the test if one of the first rooms meets one of the second.
func apart(t *testing.T, what string, first, second []room) {
	t.Helper()
	for _, a := range first {
		if slices.ContainsFunc(second, func(b room) bool { return meet(a, b) }) {
			t.Errorf("%s: a label that was handed in is kept", what)
		}
	}
}

// TestShareNone: no two lists of an answer share memory, and none does with an
// argument, nor does a label.
func TestShareNone(t *testing.T) {
	for _, was := range scripts() {
		x, _ := roomy(sample())
		l := roomyDeeds(was)
		y, back, _ := script.Run(x, l)
		alone(t, "Run", slices.Concat(rooms(x), deedRooms(l), rooms(y), deedRooms(back)))
		apart(t, "Run", slices.Concat(labels(x), deedLabels(l)), slices.Concat(labels(y), deedLabels(back)))
	}
	for _, a := range samples() {
		for _, b := range samples() {
			x, _ := roomy(a)
			y, _ := roomy(b)
			l, _ := script.Diff(x, y)
			alone(t, "Diff", slices.Concat(rooms(x), rooms(y), deedRooms(l)))
			apart(t, "Diff", slices.Concat(labels(x), labels(y)), deedLabels(l))
		}
	}
}

// TestSharedLists: arguments whose lists share memory are read as if they did
// not, and the answer's lists don't share any.
func TestSharedLists(t *testing.T) {
	kids := []api.Tree{n("p", n("q")), n("r")}
	x := n("a", n("b", kids...), n("c", kids...), n("d", kids[:1]...))
	path := []int{1, 0, 0}
	l := list(named("x", path...), deleted(path[:2]...), named("y", path[:2]...), inserted("z", 0, 1, path[:1]...), deleted(path[:1]...))
	y, back, fault := script.Run(x, l)
	want := n("a", n("b", n("p", n("q")), n("r")), n("z", n("y")), n("r"), n("d", n("p", n("q"))))
	if fault != (api.Fault{}) || !tree.Same(y, want) {
		t.Errorf("Run(%v): %v, %v", l, y, fault)
	}
	alone(t, "Run", slices.Concat(rooms(y), deedRooms(back)))
	ran(t, x, l)
	for _, two := range [][2]api.Tree{{x, x}, {x, want}, {want, x}, {x, x.Kids[1]}, {x.Kids[1], x}} {
		alone(t, "Diff", deedRooms(differs(t, two[0], two[1])))
	}
	if !slices.Equal(path, []int{1, 0, 0}) || !deed.Same(l[1], deleted(1, 0)) {
		t.Errorf("the paths that were handed in are changed: %v", l)
	}
}
