package desk

import (
	"strconv"
	"strings"

	"pleaching/api"
	"pleaching/book"
	"pleaching/dist"
	"pleaching/patch"
	"pleaching/script"
	"pleaching/text"
)

// clerk is a builder of the text told, with the book that it tells of.
type clerk struct {
	strings.Builder
	book *book.Book
}

// tell a thing: words with one blank between.
func (c *clerk) tell(words ...string) {
	c.WriteString(strings.Join(words, " "))
	c.WriteByte('\n')
}

// count tells a word and the numbers behind it.
func (c *clerk) count(word string, numbers ...int) {
	words := []string{word}
	for _, n := range numbers {
		words = append(words, strconv.Itoa(n))
	}
	c.tell(words...)
}

// what tells that it is none of the lines.
func (c *clerk) what() {
	c.tell("what")
}

// no tells a code, and what else belongs to it.
func (c *clerk) no(code int, more ...int) {
	c.count("no", append([]int{code}, more...)...)
}

// keep a tree that came with that code: one that came with none.
func (c *clerk) keep(t api.Tree, code int) {
	number := 0
	if code == 0 {
		number, code = c.book.Add(t)
	}
	if code != 0 {
		c.no(code)
		return
	}
	c.count("kept", number)
}

// deeds tells the lines of a list of deeds, and that it ends. (These are deeds
// that script.Diff told: each has a line.)
func (c *clerk) deeds(l []api.Deed) {
	lines, _ := patch.Print(l)
	c.WriteString(lines)
	c.tell("end")
}

func (c *clerk) tree(s string) {
	t, fault := text.Parse(s)
	if fault.Code != 0 {
		c.no(fault.Code, fault.At)
		return
	}
	c.keep(t, 0)
}

func (c *clerk) with(n int, line string) {
	d, code := patch.Deed(line)
	if code != 0 {
		c.no(code)
		return
	}
	c.keep(c.book.With(n, d))
}

func (c *clerk) show(n int) {
	t, ok := c.book.Get(n)
	if !ok {
		c.no(api.ErrNone)
		return
	}
	s, _ := text.Print(t)
	c.tell("tree", s)
}

func (c *clerk) diff(m, n int) {
	a, okA := c.book.Get(m)
	b, okB := c.book.Get(n)
	if !okA || !okB {
		c.no(api.ErrNone)
		return
	}
	table, _ := dist.Of(a, b)
	c.count("cost", table.Cost())
	l, _ := script.Diff(a, b)
	c.deeds(l)
}

func (c *clerk) step(n int) {
	l, ok := c.book.Step(n)
	if !ok {
		c.no(api.ErrNone)
		return
	}
	c.deeds(l)
}

func (c *clerk) blame(n int) {
	since, code := c.book.Blame(n)
	if code != 0 {
		c.no(code)
		return
	}
	c.count("since", since...)
}

func (c *clerk) merge(o, x, y int) {
	t, path, code := c.book.Merge(o, x, y)
	if code == api.ErrClash {
		c.tell("clash", patch.Path(path))
		return
	}
	c.keep(t, code)
}

func (c *clerk) many() {
	c.count("many", c.book.Len(), c.book.Deeds())
}
