package book_test

import (
	"runtime"
	"slices"
	"strings"
	"testing"
	"unsafe"

	"pleaching/api"
	"pleaching/deed"
	"pleaching/tree"
)

// samples: trees that come of each other by deeds of all kinds, one of them
// twice, in new memory.
func samples() []api.Tree {
	l := func(s string) string { return strings.Repeat(s, 3) }
	leaf := func(s string) api.Tree { return n(l(s)) }
	g := func() api.Tree { return n(l("g"), leaf("h"), leaf("i")) }
	return []api.Tree{
		n(l("a"), n(l("b"), leaf("c"), leaf("d")), leaf("e"), n(l("f"), g(), leaf("j"))),
		n(l("q"), leaf("c"), n(l("x"), leaf("d"), leaf("e")), n(l("y"), g()), leaf("j")),
		n(l("q"), leaf("c"), n(l("x"), leaf("d"), leaf("e")), n(l("y"), g()), leaf("j")),
		leaf("q"),
		n(l("q"), n(l("b"), leaf("c"), leaf("d")), g()),
		n(l("q"), leaf("z"), n(l("b"), leaf("c"), leaf("d")), g()),
		n(l("q"), n(l("b"), leaf("c"), leaf("d")), g(), leaf("z")),
		n(l("q"), n(l("b"), leaf("c"), leaf("x")), g()),
	}
}

// some deeds, of which not all can be done to all of the samples.
func some() []api.Deed {
	return list(named("xyz"), named("xyz", 0), deleted(0), inserted("xyz", 0, 1), inserted("xyz", 0, 0, 0, 0), deleted(2, 0), deleted(), named("", 1), inserted("xyz", 1, 9, 1))
}

// threes: numbers of samples to merge: where one was left alone, where both
// changed something, and where it clashes.
func threes() [][3]int {
	return [][3]int{{0, 0, 0}, {0, 0, 1}, {0, 1, 0}, {0, 1, 2}, {4, 5, 6}, {4, 5, 7}, {4, 6, 7}, {5, 4, 0}, {0, 4, 7}, {3, 4, 5}}
}

// roomy: a tree like that, each list with memory behind it, in which kept
// stands; and those memories.
func roomy(t api.Tree) (api.Tree, [][]api.Tree) {
	var all [][]api.Tree
	var give func(t api.Tree) api.Tree
	give = func(t api.Tree) api.Tree {
		kids := make([]api.Tree, 0, len(t.Kids)+2)
		for _, k := range t.Kids {
			kids = append(kids, give(k))
		}
		all = append(all, append(kids, n("kept"), n("kept")))
		return n(strings.Clone(t.Label), kids...)
	}
	return give(t), all
}

// roomyDeed: a deed like that, in memory of its own, with 77 behind its path.
func roomyDeed(d api.Deed) api.Deed {
	path := append(slices.Clone(d.Path), 77, 77, 77)
	d.Path = path[:len(d.Path):len(path)]
	d.Label = strings.Clone(d.Label)
	return d
}

// unspoilt fails the test unless a tree of roomy is as it was made.
func unspoilt(t *testing.T, what string, x, was api.Tree, all [][]api.Tree) {
	t.Helper()
	if !tree.Same(x, was) {
		t.Errorf("%s changed the tree that was handed in: %v", what, x)
	}
	for _, long := range all {
		if rest := long[len(long)-2:]; rest[0].Label != "kept" || rest[1].Label != "kept" || rest[0].Kids != nil || rest[1].Kids != nil {
			t.Errorf("%s wrote behind a list: %v", what, rest)
		}
	}
}

// unspoiltDeed fails the test unless a deed of roomyDeed is as it was made.
func unspoiltDeed(t *testing.T, what string, d, was api.Deed) {
	t.Helper()
	if !deed.Same(d, was) {
		t.Errorf("%s changed the deed that was handed in: %v", what, d)
	}
	if slices.ContainsFunc(d.Path[len(d.Path):cap(d.Path)], func(n int) bool { return n != 77 }) {
		t.Errorf("%s wrote behind a path: %v", what, d.Path[:cap(d.Path)])
	}
}

// spoil gives each node another label, and writes over each list, and behind
// it, as far as its memory goes.
func spoil(t *api.Tree) {
	t.Label = "spoilt"
	for i := range t.Kids {
		spoil(&t.Kids[i])
	}
	rest := t.Kids[len(t.Kids):cap(t.Kids)]
	for i := range rest {
		rest[i] = n("spoilt")
	}
}

// spoilNumbers does so to numbers.
func spoilNumbers(l []int) {
	l = l[:cap(l)]
	for i := range l {
		l[i] = 55
	}
}

// spoilDeeds does so to deeds and their paths.
func spoilDeeds(l []api.Deed) {
	long := l[:cap(l)]
	for i, d := range long {
		spoilNumbers(d.Path)
		long[i] = api.Deed{Kind: -1, Path: []int{55}, At: 5, Many: 5, Label: "spoilt"}
	}
}

// answers: all lists that a book answered.
type answers struct {
	trees   []api.Tree
	scripts [][]api.Deed
	numbers [][]int
}

// askAll: what a book answers of all its trees, With some deeds, and of merges.
func (s *shelf) askAll() answers {
	var a answers
	for number := range s.trees {
		x, _ := s.book.Get(number)
		l, _ := s.book.Step(number)
		since, _ := s.book.Blame(number)
		a.trees, a.scripts, a.numbers = append(a.trees, x), append(a.scripts, l), append(a.numbers, since)
		for _, d := range some() {
			y, _ := s.book.With(number, d)
			a.trees = append(a.trees, y)
		}
	}
	for _, three := range threes() {
		m, path, _ := s.book.Merge(three[0], three[1], three[2])
		a.trees, a.numbers = append(a.trees, m), append(a.numbers, path)
	}
	return a
}

func (a answers) spoil() {
	for i := range a.trees {
		spoil(&a.trees[i])
	}
	for _, l := range a.scripts {
		spoilDeeds(l)
	}
	for _, l := range a.numbers {
		spoilNumbers(l)
	}
}

// TestThrees: the merges of the samples are of all kinds.
func TestThrees(t *testing.T) {
	s := shelved(t, samples()...)
	codes := map[int]int{}
	for _, three := range threes() {
		codes[s.merge(t, three[0], three[1], three[2])]++
	}
	if codes[0] < 6 || codes[api.ErrClash] < 2 {
		t.Errorf("the merges have the codes %v", codes)
	}
}

// TestLeavesAlone: nothing that is handed in is changed, neither by a call nor
// by what is done to any answer.
func TestLeavesAlone(t *testing.T) {
	s := newShelf()
	var given []api.Tree
	var rests [][][]api.Tree
	for _, x := range samples() {
		y, all := roomy(x)
		s.add(t, y)
		given, rests = append(given, y), append(rests, all)
	}
	for range 2 {
		for number, was := range samples() {
			unspoilt(t, "a book", given[number], was, rests[number])
		}
		s.askAll().spoil()
	}
	for number := range samples() {
		for _, was := range some() {
			d := roomyDeed(was)
			x, _ := s.book.With(number, d)
			unspoiltDeed(t, "With", d, was)
			spoil(&x)
			unspoiltDeed(t, "what was done to the answer of With", d, was)
		}
	}
}

// TestRefusedLeavesAlone: nor is a tree that is refused.
func TestRefusedLeavesAlone(t *testing.T) {
	for _, many := range []int{0, 1, api.MaxTrees} {
		s := newShelf()
		for i := range many {
			s.add(t, samples()[i%len(samples())])
		}
		for _, was := range []api.Tree{{}, n("a", n("B", n("c")), n("d")), wide(api.MaxNodes), chain(api.MaxDeep + 1)} {
			x, all := roomy(was)
			s.book.Add(x)
			unspoilt(t, "Add", x, was, all)
			spoil(&x)
			s.holds(t, "what was done to a tree that was refused")
		}
	}
}

// TestKeepsNothing: what is done to what was handed in changes no later answer,
// whether the tree is the last one by then or not.
func TestKeepsNothing(t *testing.T) {
	s := newShelf()
	for _, was := range samples() {
		x, _ := roomy(was)
		s.add(t, x)
		spoil(&x)
		s.holds(t, "a book whose trees are spoilt at once")
	}
	late := newShelf()
	var given []api.Tree
	for _, was := range samples() {
		x, _ := roomy(was)
		late.add(t, x)
		given = append(given, x)
	}
	for i := range given {
		spoil(&given[i])
		late.holds(t, "a book whose trees are spoilt later")
	}
	for number := range samples() {
		for _, was := range some() {
			d := roomyDeed(was)
			x, code := s.book.With(number, d)
			spoilDeeds([]api.Deed{d})
			if want, _, wanted := deed.Do(samples()[number], was); code != wanted || !tree.Same(x, want) {
				t.Errorf("With(%d, %v), which was spoilt: %v, %d, want %v, %d", number, was, x, code, want, wanted)
			}
		}
	}
	s.holds(t, "a book whose deeds are spoilt")
}

// TestOneMemory: a tree that is added, changed where it lies, and added again,
// is two trees.
func TestOneMemory(t *testing.T) {
	s := newShelf()
	x := samples()[0]
	s.add(t, x)
	x.Kids[0].Label = "new"
	s.add(t, x)
	x.Kids[2].Kids[0].Kids[1] = n("new", n("newer"))
	s.add(t, x)
	x.Kids = x.Kids[:2]
	s.add(t, x)
	s.holds(t, "one tree that is changed where it lies")
}

// TestAnswersAreNew: what is done to an answer changes no later one.
func TestAnswersAreNew(t *testing.T) {
	s := newShelf()
	for _, x := range samples() {
		s.add(t, x)
		s.askAll().spoil()
		s.holds(t, "a book whose answers are spoilt")
	}
	was := told(s.book)
	for range 3 {
		s.askAll().spoil()
	}
	if now := told(s.book); now != was {
		t.Errorf("what was done to answers changes the book: %s, want %s", now, was)
	}
	s.add(t, samples()[0])
	s.mergeAll(t)
	s.holds(t, "a book whose answers are spoilt, and one more tree")
}

// TestAnswersStay: what is asked later, or added, changes no earlier answer.
func TestAnswersStay(t *testing.T) {
	s := shelved(t, samples()...)
	first, want := s.askAll(), s.askAll()
	s.add(t, samples()[0])
	s.askAll().spoil()
	if !slices.EqualFunc(first.trees, want.trees, tree.Same) ||
		!slices.EqualFunc(first.scripts, want.scripts, sameDeeds) ||
		!slices.EqualFunc(first.numbers, want.numbers, slices.Equal[[]int]) {
		t.Errorf("earlier answers are %v, were %v", first, want)
	}
}

// room: memory from one address on to another.
type room struct{ from, to uintptr }

// listRoom: all memory of a list.
func listRoom[T interface{ int | api.Tree | api.Deed }](l []T) room {
	var one T
	from := uintptr(unsafe.Pointer(unsafe.SliceData(l)))
	return room{from, from + uintptr(cap(l))*unsafe.Sizeof(one)}
}

// rooms: where the lists of a tree lie.
func rooms(t api.Tree) []room {
	all := []room{listRoom(t.Kids)}
	for _, kid := range t.Kids {
		all = append(all, rooms(kid)...)
	}
	return all
}

// rooms: where all lists of answers lie.
func (a answers) rooms() []room {
	var all []room
	for _, x := range a.trees {
		all = append(all, rooms(x)...)
	}
	for _, l := range a.scripts {
		all = append(all, listRoom(l))
		for _, d := range l {
			all = append(all, listRoom(d.Path))
		}
	}
	for _, l := range a.numbers {
		all = append(all, listRoom(l))
	}
	return all
}

// labels: where those of a tree lie.
func labels(t api.Tree) []room {
	from := uintptr(unsafe.Pointer(unsafe.StringData(t.Label)))
	all := []room{{from, from + uintptr(len(t.Label))}}
	for _, kid := range t.Kids {
		all = append(all, labels(kid)...)
	}
	return all
}

func meet(a, b room) bool {
	return a.from < b.to && b.from < a.to
}

// alone fails the test if two of these rooms meet.
func alone(t *testing.T, what string, all []room) {
	t.Helper()
	for i, a := range all {
		if slices.ContainsFunc(all[:i], func(b room) bool { return meet(a, b) }) {
			t.Errorf("%s: lists share memory", what)
			return
		}
	}
}

// TestShareNone: no two lists of answers share memory, of one or of several,
// and none does with what was handed in, nor does a label.
func TestShareNone(t *testing.T) {
	s := newShelf()
	given := samples()
	var in, names []room
	for _, x := range given {
		s.add(t, x)
		in, names = append(in, rooms(x)...), append(names, labels(x)...)
	}
	first, second := s.askAll(), s.askAll()
	alone(t, "a book", slices.Concat(in, first.rooms(), second.rooms()))
	for _, x := range first.trees {
		for _, a := range labels(x) {
			if slices.ContainsFunc(names, func(b room) bool { return meet(a, b) }) {
				t.Errorf("the label of a tree that was handed in is kept: %v", x)
			}
		}
	}
	// Else their memory could be given to others ahead of that.
	runtime.KeepAlive(given)
	runtime.KeepAlive(first)
	runtime.KeepAlive(second)
}

// TestSharedLists: trees whose lists share memory are read as if they did not,
// and the answers' lists don't share any.
func TestSharedLists(t *testing.T) {
	kids := []api.Tree{n("p", n("q")), n("r"), n("s")}
	s := shelved(t,
		n("a", n("b", kids[:2]...), n("c", kids[:2]...), n("d", kids[:1]...)),
		n("a", n("b", kids...), n("c", kids...), n("d", kids[:1]...)),
		n("z", n("b", kids[:2]...), n("c", kids[:2]...), n("d", kids[1:]...), n("e", kids...)),
		n("a", kids...),
		n("a", kids[:2]...),
		n("a", n("b", kids[1:]...), kids[0]),
		n("a", kids...),
		n("a", kids[1:]...),
	)
	s.holds(t, "trees whose lists share memory")
	s.mergeAll(t)
	a := s.askAll()
	alone(t, "a book of such trees", slices.Concat(a.rooms(), []room{listRoom(kids)}))
	runtime.KeepAlive(a)
	runtime.KeepAlive(kids)
	a.spoil()
	s.holds(t, "trees whose lists share memory, and answers that are spoilt")
}
