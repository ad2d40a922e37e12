package merge

import (
	"slices"

	"pleaching/api"
	"pleaching/tree"
)

// kinds: a number for each tree of a list: the same for those that are the
// same, and for no others.
func kinds(l []api.Tree) []int {
	var firsts []api.Tree
	numbers := make([]int, len(l))
	for i, t := range l {
		number := slices.IndexFunc(firsts, func(first api.Tree) bool {
			// Most that differ do so by their labels, which is told at once.
			return first.Label == t.Label && tree.Same(first, t)
		})
		if number < 0 {
			number = len(firsts)
			firsts = append(firsts, t)
		}
		numbers[i] = number
	}
	return numbers
}

// finder of pairs of places of two lists, which is handed how to look whether
// two places are the same.
type finder struct {
	same  func(i, j int) bool
	long  int // the second list
	next  int // the place of the second list that it has come to
	pairs []api.Pair
}

// find goes over the first list from one place on to another one; behind tells
// how many pairs there are from that one on, and from each place of the second
// list on.
//
// It halves the way, and counts anew for each half: to keep these counts of all
// places would take more memory than there is, where both lists are long.
func (f *finder) find(from, to int, behind []int) {
	if from == to || f.next == f.long {
		return
	}
	if to-from == 1 {
		f.goOver(from, behind)
		return
	}
	middle := from + (to-from)/2
	counts := slices.Clone(behind)
	for i := to - 1; i >= middle; i-- {
		f.count(i, counts)
	}
	f.find(from, middle, counts)
	f.find(middle, to, behind)
}

// count makes the counts of the place behind one of the first list those of
// that place.
func (f *finder) count(i int, counts []int) {
	behindBoth := 0
	for j := f.long - 1; j >= f.next; j-- {
		behind := counts[j]
		if f.same(i, j) {
			counts[j] = behindBoth + 1
		} else {
			counts[j] = max(behind, counts[j+1])
		}
		behindBoth = behind
	}
}

// goOver goes over one place of the first list, and over those of the second
// one that come ahead of it; behind are the counts of the first one's next.
func (f *finder) goOver(i int, behind []int) {
	here := slices.Clone(behind)
	f.count(i, here)
	for ; f.next < f.long; f.next++ {
		if f.same(i, f.next) {
			f.pairs = append(f.pairs, api.Pair{A: i, B: f.next})
			f.next++
			return
		}
		if behind[f.next] >= here[f.next+1] {
			return
		}
	}
}
