package desk

import (
	"strconv"
	"strings"
)

// do what a line asks for, and tell it.
func (c *clerk) do(line string) {
	// What stands behind tree and do may have blanks that belong to it; so these
	// lines are not cut into words.
	first, rest, _ := strings.Cut(line, " ")
	switch first {
	case "tree":
		c.tree(rest)
	case "do":
		c.doDeed(rest)
	default:
		c.ask(wordsOf(line))
	}
}

// doDeed: what stands behind do.
func (c *clerk) doDeed(rest string) {
	word, line, more := strings.Cut(rest, " ")
	n, ok := number(word)
	if !ok || !more {
		c.what()
		return
	}
	c.with(n, line)
}

// ask by a line's words, the first of which tells how many numbers must stand
// behind it.
func (c *clerk) ask(words []string) {
	if len(words) == 0 {
		return
	}
	l, ok := numbersOf(words[1:]...)
	if !ok {
		c.what()
		return
	}
	switch first, long := words[0], len(l); {
	case first == "show" && long == 1:
		c.show(l[0])
	case first == "diff" && long == 2:
		c.diff(l[0], l[1])
	case first == "step" && long == 1:
		c.step(l[0])
	case first == "blame" && long == 1:
		c.blame(l[0])
	case first == "merge" && long == 3:
		c.merge(l[0], l[1], l[2])
	case first == "many" && long == 0:
		c.many()
	default:
		c.what()
	}
}

// wordsOf a line. (strings.Fields would take other bytes for blanks, too.)
func wordsOf(line string) []string {
	return strings.FieldsFunc(line, func(r rune) bool { return r == ' ' })
}

// numbersOf words; false: one is none.
func numbersOf(words ...string) ([]int, bool) {
	var l []int
	for _, word := range words {
		n, ok := number(word)
		if !ok {
			return nil, false
		}
		l = append(l, n)
	}
	return l, true
}

// number: that of a word that is as short as can be; false: it is none of 64
// bits.
func number(word string) (int, bool) {
	n, err := strconv.Atoi(word)
	// Atoi takes a + and zeros ahead, too; Itoa writes none.
	if err != nil || strconv.Itoa(n) != word {
		return 0, false
	}
	return n, true
}
