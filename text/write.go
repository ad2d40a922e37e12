package text

import (
	"strings"

	"pleaching/api"
)

// writer is a builder of a text that can write trees, too.
type writer struct{ strings.Builder }

// tree writes a tree that Check has found to be one: that is why it is not
// too deep to call itself.
func (w *writer) tree(t api.Tree) {
	w.WriteString(t.Label)
	if len(t.Kids) == 0 {
		return
	}
	between := byte('(')
	for _, kid := range t.Kids {
		w.WriteByte(between)
		w.tree(kid)
		between = ' '
	}
	w.WriteByte(')')
}
