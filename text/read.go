package text

import (
	"strings"

	"pleaching/api"
)

// reader of a text, and the place that it has come to.
type reader struct {
	text string
	at   int
}

// stop is what a reader panics with when it can't go on.
type stop struct{ api.Fault }

// read: the tree that a text tells, whatever its labels and however many its
// nodes; or the fault at which reading gave up.
func read(s string) (t api.Tree, fault api.Fault) {
	defer func() {
		switch why := recover().(type) {
		case nil:
		case stop:
			fault = why.Fault
		default: // not the reader's own
			panic(why)
		}
	}()
	r := reader{text: s}
	t = r.tree(0)
	r.blanks()
	if r.at < len(r.text) {
		r.giveUp(api.ErrForm)
	}
	return t, api.Fault{}
}

// giveUp ends all reading, however deep the reader stands, with that code at
// its place.
func (r *reader) giveUp(code int) {
	panic(stop{api.Fault{Code: code, At: r.at}})
}

// tree reads a node beneath so many others, and all beneath it.
//
// How deep it is is asked first: its fault stands ahead of blanks, so it comes
// ahead of all that may be wrong behind them.
func (r *reader) tree(above int) api.Tree {
	if above > api.MaxDeep {
		r.giveUp(api.ErrDeep)
	}
	t := api.Tree{Label: r.label()}
	if !r.comes('(') {
		return t
	}
	for {
		t.Kids = append(t.Kids, r.tree(above+1))
		if r.comes(')') {
			return t
		}
	}
}

// label reads letters as long as they go on; there must be one.
func (r *reader) label() string {
	r.blanks()
	from := r.at
	for r.at < len(r.text) && 'a' <= r.text[r.at] && r.text[r.at] <= 'z' {
		r.at++
	}
	switch {
	case from == len(r.text):
		r.giveUp(api.ErrShort)
	case from == r.at:
		r.giveUp(api.ErrText)
	}
	// A piece of the text would keep all of it.
	return strings.Clone(r.text[from:r.at])
}

// comes goes over blanks, and over the mark if that comes then: does it?
func (r *reader) comes(mark byte) bool {
	r.blanks()
	if r.at == len(r.text) || r.text[r.at] != mark {
		return false
	}
	r.at++
	return true
}

// blanks goes over blanks.
func (r *reader) blanks() {
	for r.at < len(r.text) && (r.text[r.at] == ' ' || r.text[r.at] == '\n') {
		r.at++
	}
}
