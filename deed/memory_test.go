package deed_test

import (
	"slices"
	"strings"
	"testing"
	"unsafe"

	"pleaching/api"
	"pleaching/deed"
	"pleaching/tree"
)

// sample: a tree with leaves and inner nodes, its labels in new memory.
func sample() api.Tree {
	l := func(s string) string { return strings.Repeat(s, 3) }
	return n(l("a"), n(l("b"), n(l("c")), n(l("d"))), n(l("e")), n(l("f"), n(l("g"), n(l("h")), n(l("i"))), n(l("j"))))
}

// roomy: the sample, each list with memory behind it, in which kept stands; and
// those memories.
func roomy() (api.Tree, [][]api.Tree) {
	var all [][]api.Tree
	var give func(t api.Tree) api.Tree
	give = func(t api.Tree) api.Tree {
		kids := make([]api.Tree, 0, len(t.Kids)+2)
		for _, k := range t.Kids {
			kids = append(kids, give(k))
		}
		all = append(all, append(kids, n("kept"), n("kept")))
		return n(t.Label, kids...)
	}
	return give(sample()), all
}

// unspoilt fails the test unless that tree of roomy, and the deed whose path has
// 77 behind it, are as they were made.
func unspoilt(t *testing.T, what string, x api.Tree, all [][]api.Tree, d, was api.Deed) {
	t.Helper()
	if !tree.Same(x, sample()) {
		t.Errorf("%s changed the tree that was handed in: %v", what, x)
	}
	for _, long := range all {
		if rest := long[len(long)-2:]; rest[0].Label != "kept" || rest[1].Label != "kept" || rest[0].Kids != nil || rest[1].Kids != nil {
			t.Errorf("%s wrote behind a list: %v", what, rest)
		}
	}
	if long := d.Path[:cap(d.Path)]; !deed.Same(d, was) || slices.ContainsFunc(long[len(d.Path):], func(n int) bool { return n != 77 }) {
		t.Errorf("%s changed the deed that was handed in: %v, %v, was %v", what, d, long, was)
	}
}

// roomyDeed: a deed like that, in memory of its own, with 77 behind its path.
func roomyDeed(d api.Deed) api.Deed {
	long := append(slices.Clone(d.Path), 77, 77, 77)
	d.Path = long[:len(d.Path):len(long)]
	d.Label = strings.Clone(d.Label)
	return d
}

// spoil gives each node another label, and writes over each list, and behind
// it, as far as its memory goes.
func spoil(t *api.Tree) {
	t.Label = "spoilt"
	for i := range t.Kids {
		spoil(&t.Kids[i])
	}
	rest := t.Kids[len(t.Kids):cap(t.Kids)]
	for i := range rest {
		rest[i] = n("spoilt")
	}
}

func spoilPath(path []int) {
	for i := range path[:cap(path)] {
		path[:cap(path)][i] = 55
	}
}

// some: deeds to the sample of each kind, at the root, at leaves, and between.
func some() []api.Deed {
	return []api.Deed{
		named("xyz"), named("xyz", 0), named("xyz", 2, 0, 1),
		deleted(0), deleted(1), deleted(2), deleted(2, 0), deleted(2, 0, 1),
		inserted("xyz", 0, 0), inserted("xyz", 0, 3), inserted("xyz", 1, 2), inserted("xyz", 3, 0),
		inserted("xyz", 0, 0, 1), inserted("xyz", 0, 2, 0), inserted("xyz", 1, 1, 2), inserted("xyz", 0, 1, 2, 0),
	}
}

// faulty: deeds that can't be done to the sample, each for another reason.
func faulty() []api.Deed {
	return []api.Deed{{}, deleted(), deleted(3), named("xyz", 0, 0, 0), named("", 0), named("xyz", -1), inserted("xyz", 4, 0), inserted("xyz", 1, 3), inserted("xyz", 0, 1, 1)}
}

// TestLeavesAlone: nothing that is handed in is changed, neither by a call nor
// by what is done to its answer.
func TestLeavesAlone(t *testing.T) {
	for _, was := range append(some(), faulty()...) {
		x, all := roomy()
		d := roomyDeed(was)
		deed.Check(d)
		deed.Same(d, d)
		unspoilt(t, "Check or Same", x, all, d, was)
		y, back, _ := deed.Do(x, d)
		unspoilt(t, "Do", x, all, d, was)
		spoil(&y)
		spoilPath(back.Path)
		unspoilt(t, "what was done to the answer of Do", x, all, d, was)
	}
}

// TestKeepsNothing: what is done to what was handed in does not change what was
// answered.
func TestKeepsNothing(t *testing.T) {
	for _, was := range some() {
		x, _ := roomy()
		d := roomyDeed(was)
		y, back, _ := deed.Do(x, d)
		want, undo, _ := deed.Do(sample(), was)
		spoil(&x)
		spoilPath(d.Path)
		if !tree.Same(y, want) || !deed.Same(back, undo) {
			t.Errorf("what was done to the arguments changed the answer of Do(%v): %v, %v", was, y, back)
		}
	}
}

// TestBehindLength: what lies behind a list's length is neither kid nor path.
func TestBehindLength(t *testing.T) {
	for _, was := range append(some(), faulty()...) {
		x, _ := roomy()
		d := roomyDeed(was)
		y, back, code := deed.Do(x, d)
		want, undo, wanted := deed.Do(sample(), was)
		if code != wanted || !tree.Same(y, want) || !deed.Same(back, undo) || !deed.Same(d, was) || deed.Check(d) != deed.Check(was) {
			t.Errorf("Do(%v): %v, %v, %d", was, y, back, code)
		}
	}
}

// room: memory from one address on to another.
type room struct{ from, to uintptr }

// rooms: where the lists and labels of a tree lie, all their memory.
func rooms(t api.Tree) []room {
	all := []room{labelRoom(t.Label)}
	if cap(t.Kids) > 0 {
		from := uintptr(unsafe.Pointer(unsafe.SliceData(t.Kids)))
		all = append(all, room{from, from + uintptr(cap(t.Kids))*unsafe.Sizeof(api.Tree{})})
	}
	for _, kid := range t.Kids {
		all = append(all, rooms(kid)...)
	}
	return all
}

func labelRoom(s string) room {
	from := uintptr(unsafe.Pointer(unsafe.StringData(s)))
	return room{from, from + uintptr(len(s))}
}

func deedRooms(d api.Deed) []room {
	all := []room{labelRoom(d.Label)}
	if cap(d.Path) > 0 {
		from := uintptr(unsafe.Pointer(unsafe.SliceData(d.Path)))
		all = append(all, room{from, from + uintptr(cap(d.Path))*unsafe.Sizeof(0)})
	}
	return all
}

// TestShareNone: no two lists of an answer share memory, and none does with an
// argument, nor does a label.
func TestShareNone(t *testing.T) {
	for _, was := range some() {
		x, _ := roomy()
		d := roomyDeed(was)
		y, back, _ := deed.Do(x, d)
		all := slices.Concat(rooms(x), deedRooms(d), rooms(y), deedRooms(back))
		for i, a := range all {
			for _, b := range all[:i] {
				if a.from < b.to && b.from < a.to {
					t.Errorf("Do(%v): memory is shared", was)
				}
			}
		}
	}
}

// TestSharedLists: lists of the argument that share memory are changed only
// where the deed says so, and don't share any in the answer.
func TestSharedLists(t *testing.T) {
	kids := []api.Tree{n("p", n("q")), n("r")}
	x := n("a", n("b", kids...), n("c", kids...), n("d", kids[:1]...))
	for _, c := range []struct {
		d    api.Deed
		want api.Tree
	}{
		{named("x", 1, 0), n("a", n("b", kids...), n("c", n("x", n("q")), n("r")), n("d", kids[:1]...))},
		{named("x", 0, 0, 0), n("a", n("b", n("p", n("x")), n("r")), n("c", kids...), n("d", kids[:1]...))},
		{deleted(0, 0), n("a", n("b", n("q"), n("r")), n("c", kids...), n("d", kids[:1]...))},
		{deleted(2), n("a", n("b", kids...), n("c", kids...), kids[0])},
		{inserted("x", 1, 0, 2), n("a", n("b", kids...), n("c", kids...), n("d", kids[0], n("x")))},
		{inserted("x", 0, 2, 1), n("a", n("b", kids...), n("c", n("x", kids...)), n("d", kids[:1]...))},
	} {
		y, _, code := deed.Do(x, c.d)
		if code != 0 || !tree.Same(y, c.want) {
			t.Errorf("Do(%v): %v, %d", c.d, y, code)
		}
		all := rooms(y)
		for i, a := range all {
			for _, b := range all[:i] {
				if a.from < b.to && b.from < a.to {
					t.Errorf("Do(%v): lists of the answer share memory", c.d)
				}
			}
		}
	}
}
