package merge_test

import (
	"slices"
	"strings"
	"testing"
	"unsafe"

	"pleaching/api"
	"pleaching/merge"
	"pleaching/tree"
)

// threes: trees to merge, in new memory: where neither, one and both changed
// something, where it clashes, where what comes is too great, and where one is
// no tree.
func threes() [][3]api.Tree {
	l := func(s string) string { return strings.Repeat(s, 3) }
	leaf := func(s string) api.Tree { return n(l(s)) }
	o := func() api.Tree { return n(l("a"), n(l("b"), leaf("c"), leaf("d")), leaf("e"), n(l("f"), leaf("g"))) }
	left := func() api.Tree {
		return n(l("a"), leaf("x"), n(l("b"), leaf("x"), leaf("c"), leaf("d")), leaf("e"), n(l("f"), leaf("x")))
	}
	right := func() api.Tree {
		return n(l("z"), n(l("b"), leaf("c"), leaf("d")), leaf("e"), n(l("y"), leaf("g")), leaf("y"))
	}
	deep := func(more api.Tree) api.Tree {
		return n(l("a"), n(l("b"), leaf("c"), leaf("d"), more), leaf("e"), n(l("f"), leaf("g")))
	}
	many := func(s string, kids ...api.Tree) api.Tree {
		for range 30 {
			kids = append(kids, leaf(s))
		}
		return n(l("a"), kids...)
	}
	ahead := many("x")
	ahead.Kids = append(ahead.Kids, leaf("b"))
	return [][3]api.Tree{
		{o(), o(), o()},
		{o(), left(), o()},
		{o(), o(), right()},
		{o(), left(), left()},
		{o(), left(), n(l("z"), n(l("b"), leaf("c"), leaf("d")), leaf("e"), n(l("y"), leaf("g")))},
		{o(), deep(leaf("x")), n(l("z"), n(l("b"), leaf("y"), leaf("c"), leaf("d")), leaf("e"), leaf("f"))},
		{o(), n(l("z"), leaf("e"), n(l("f"), leaf("g"))), n(l("a"), n(l("b"), leaf("c"), leaf("d")), leaf("e"), n(l("f"), leaf("g")), leaf("y"))},
		{o(), left(), right()},
		{o(), deep(leaf("x")), deep(leaf("y"))},
		{n(l("a"), leaf("b")), ahead, many("y", leaf("b"))},
		{o(), left(), n("A")},
	}
}

// roomy: a list like that, each list of it with memory behind it, in which kept
// stands; and those memories.
func roomy(l []api.Tree) ([]api.Tree, [][]api.Tree) {
	var all [][]api.Tree
	var give func(l []api.Tree) []api.Tree
	give = func(l []api.Tree) []api.Tree {
		long := make([]api.Tree, 0, len(l)+2)
		for _, t := range l {
			long = append(long, n(t.Label, give(t.Kids)...))
		}
		all = append(all, append(long, n("kept"), n("kept")))
		return long
	}
	return give(l), all
}

// unspoilt fails the test unless a list of roomy is as it was made.
func unspoilt(t *testing.T, what string, l, was []api.Tree, all [][]api.Tree) {
	t.Helper()
	if !slices.EqualFunc(l, was, tree.Same) {
		t.Errorf("%s changed what was handed in: %v", what, l)
	}
	for _, long := range all {
		if rest := long[len(long)-2:]; rest[0].Label != "kept" || rest[1].Label != "kept" || rest[0].Kids != nil || rest[1].Kids != nil {
			t.Errorf("%s wrote behind a list: %v", what, rest)
		}
	}
}

// spoil gives each node another label, and writes over each list, and behind
// it, as far as its memory goes.
func spoil(l []api.Tree) {
	for i, t := range l {
		spoil(t.Kids)
		l[i] = n("spoilt")
	}
	rest := l[len(l):cap(l)]
	for i := range rest {
		rest[i] = n("spoilt")
	}
}

// spoilNumbers does so to numbers and pairs.
func spoilNumbers[T any](l []T, with T) {
	l = l[:cap(l)]
	for i := range l {
		l[i] = with
	}
}

// TestMergeLeavesAlone: nothing that is handed in is changed, neither by a call
// nor by what is done to its answer.
func TestMergeLeavesAlone(t *testing.T) {
	for i, three := range threes() {
		l, all := roomy(three[:])
		was := threes()[i]
		y, path, _ := merge.Merge(l[0], l[1], l[2])
		unspoilt(t, "Merge", l, was[:], all)
		spoil(y.Kids)
		spoilNumbers(path, 55)
		unspoilt(t, "what was done to the answer of Merge", l, was[:], all)
	}
}

// TestMergeKeepsNothing: what is done to what was handed in does not change
// what was answered; and what lies behind a list's length changes nothing.
func TestMergeKeepsNothing(t *testing.T) {
	codes := map[int]int{}
	for _, three := range threes() {
		want, way, wanted := merge.Merge(three[0], three[1], three[2])
		codes[wanted]++
		l, _ := roomy(three[:])
		y, path, code := merge.Merge(l[0], l[1], l[2])
		spoil(l)
		if code != wanted || told(y) != told(want) || !slices.Equal(path, way) {
			t.Errorf("Merge(%v): %v, %v, %d, want %v, %v, %d", three, y, path, code, want, way, wanted)
		}
	}
	if codes[0] != 7 || codes[api.ErrClash] != 2 || codes[api.ErrMany] != 1 || codes[api.ErrName] != 1 {
		t.Errorf("the trees have other codes than they are made for: %v", codes)
	}
}

// TestCommonLeavesAlone: the same of Common, and nothing is kept.
func TestCommonLeavesAlone(t *testing.T) {
	for i, one := range threes() {
		for j, other := range threes() {
			a, first := roomy(one[0].Kids)
			b, second := roomy(other[1].Kids)
			l := merge.Common(a, b)
			want := common(one[0].Kids, other[1].Kids)
			unspoilt(t, "Common", a, threes()[i][0].Kids, first)
			unspoilt(t, "Common", b, threes()[j][1].Kids, second)
			spoil(a)
			spoil(b)
			if !slices.Equal(l, want) {
				t.Errorf("Common(%v, %v): %v, want %v", one[0].Kids, other[1].Kids, l, want)
			}
			a, first = roomy(one[0].Kids)
			l = merge.Common(a, a)
			spoilNumbers(l, api.Pair{A: 55, B: 55})
			unspoilt(t, "what was done to the answer of Common", a, threes()[i][0].Kids, first)
		}
	}
}

// room: memory from one address on to another.
type room struct{ from, to uintptr }

// listRoom: all memory of a list.
func listRoom[T interface{ int | api.Tree }](l []T) room {
	var one T
	from := uintptr(unsafe.Pointer(unsafe.SliceData(l)))
	return room{from, from + uintptr(cap(l))*unsafe.Sizeof(one)}
}

// rooms: where a list of trees, and the lists of these, lie.
func rooms(l []api.Tree) []room {
	all := []room{listRoom(l)}
	for _, t := range l {
		all = append(all, rooms(t.Kids)...)
	}
	return all
}

// labels: where those of trees lie.
func labels(l []api.Tree) []room {
	var all []room
	for _, t := range l {
		from := uintptr(unsafe.Pointer(unsafe.StringData(t.Label)))
		all = append(all, room{from, from + uintptr(len(t.Label))})
		all = append(all, labels(t.Kids)...)
	}
	return all
}

func meet(a, b room) bool {
	return a.from < b.to && b.from < a.to
}

// alone fails the test if two of these rooms meet.
func alone(t *testing.T, what string, all []room) {
	t.Helper()
	for i, a := range all {
		if slices.ContainsFunc(all[:i], func(b room) bool { return meet(a, b) }) {
			t.Errorf("%s: lists share memory", what)
		}
	}
}

// apart fails the test if one of the first rooms meets one of the second.
func apart(t *testing.T, what string, first, second []room) {
	t.Helper()
	for _, a := range first {
		if slices.ContainsFunc(second, func(b room) bool { return meet(a, b) }) {
			t.Errorf("%s: memory that was handed in is kept", what)
		}
	}
}

// TestShareNone: no two lists of an answer share memory, and none does with an
// argument, nor does a label.
func TestShareNone(t *testing.T) {
	for _, three := range threes() {
		l, _ := roomy(three[:])
		y, path, _ := merge.Merge(l[0], l[1], l[2])
		alone(t, "Merge", slices.Concat(rooms(l), rooms(y.Kids), []room{listRoom(path)}))
		apart(t, "Merge", labels(l), labels([]api.Tree{y}))
	}
}

// TestSharedLists: arguments whose lists share memory are read as if they did
// not, and the answer's lists don't share any.
func TestSharedLists(t *testing.T) {
	kids := []api.Tree{n("p", n("q")), n("r"), n("s")}
	o := n("a", n("b", kids[:2]...), n("c", kids[:2]...), n("d", kids[:1]...))
	a := n("a", n("b", kids...), n("c", kids...), n("d", kids[:1]...))
	b := n("z", n("b", kids[:2]...), n("c", kids[:2]...), n("d", kids[1:]...), n("e", kids...))
	all := []api.Tree{o, a, b, n("a", o.Kids[0], o.Kids[0], o.Kids[0]), n("a", kids...)}
	was := allTold(all)
	for _, x := range all {
		for _, y := range all {
			for _, z := range all {
				merges(t, x, y, z)
				m, _, _ := merge.Merge(x, y, z)
				alone(t, "Merge", rooms(m.Kids))
				apart(t, "Merge", rooms(all), rooms(m.Kids))
			}
			shares(t, x.Kids, y.Kids)
		}
	}
	if !slices.Equal(was, allTold(all)) {
		t.Errorf("what was handed in is changed: %v", all)
	}
}
