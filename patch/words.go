package patch

import (
	"slices"
	"strconv"
	"strings"

	"pleaching/api"
)

// The first words of lines.
const (
	wordName   = "name"
	wordDelete = "delete"
	wordInsert = "insert"
)

// How many words lines of each kind have.
const (
	longName   = 3
	longDelete = 2
	longInsert = 5
)

// greatest is the greatest number that a line may have.
const greatest = 999

// anyTooGreat: has a line no room for one of these numbers?
func anyTooGreat(numbers ...int) bool {
	return slices.ContainsFunc(numbers, func(n int) bool { return n > greatest })
}

// write: the line of a deed that Line has found to have one.
func write(d api.Deed) string {
	switch d.Kind {
	case api.DName:
		return joined(wordName, Path(d.Path), d.Label)
	case api.DDelete:
		return joined(wordDelete, Path(d.Path))
	}
	return joined(wordInsert, Path(d.Path), strconv.Itoa(d.At), strconv.Itoa(d.Many), d.Label)
}

// joined: words with one blank between.
func joined(words ...string) string {
	return strings.Join(words, " ")
}

// read: what a line's words tell, whatever its label; false: they are not such
// words.
func read(s string) (api.Deed, bool) {
	// One word more than any line has is enough to see that they are too many.
	words := strings.SplitN(s, " ", longInsert+1)
	switch first, long := words[0], len(words); {
	case first == wordName && long == longName:
		return readName(words[1], words[2])
	case first == wordDelete && long == longDelete:
		return readDelete(words[1])
	case first == wordInsert && long == longInsert:
		return readInsert(words[1], words[2], words[3], words[4])
	}
	return api.Deed{}, false
}

func readName(path, label string) (api.Deed, bool) {
	l, ok := ParsePath(path)
	return api.Deed{Kind: api.DName, Path: l, Label: label}, ok
}

func readDelete(path string) (api.Deed, bool) {
	l, ok := ParsePath(path)
	return api.Deed{Kind: api.DDelete, Path: l}, ok
}

func readInsert(path, at, many, label string) (api.Deed, bool) {
	l, okPath := ParsePath(path)
	from, okAt := number(at)
	kids, okMany := number(many)
	return api.Deed{Kind: api.DInsert, Path: l, At: from, Many: kids, Label: label}, okPath && okAt && okMany
}

// number: that of a word that is as short as can be; false: it is none from 0
// to the greatest.
func number(word string) (int, bool) {
	n, err := strconv.Atoi(word)
	// Atoi takes signs and zeros ahead, too; Itoa writes none.
	if err != nil || n < 0 || n > greatest || strconv.Itoa(n) != word {
		return 0, false
	}
	return n, true
}
