package dist

import "pleaching/api"

// forests of both trees, all that begin at the nodes numbered x and y: at m, n
// what it costs to make of m nodes from x on n nodes from y on.
type forests struct {
	table *Table
	x, y  int
	cost  [][]int
}

// grid: so many rows and columns of zeros.
func grid(rows, columns int) [][]int {
	g := make([][]int, rows)
	for i := range g {
		g[i] = make([]int, columns)
	}
	return g
}

// fill works out what trees cost. As forests up to i and j tell of all trees
// at once that begin where they do, only the greatest that begin at a place
// are asked. They come by their numbers, as each forest needs to know of the
// trees in it that begin further on.
func (t *Table) fill() {
	for i := range t.a {
		if !greatest(t.a, i) {
			continue
		}
		for j := range t.b {
			if greatest(t.b, j) {
				t.forests(i, j).note()
			}
		}
	}
}

// greatest: does no node above this one begin where it does?
func greatest(l []api.Node, i int) bool {
	parent := l[i].Parent
	return parent < 0 || l[parent].Left != l[i].Left
}

// rename: what it costs that the node i gets the label of j.
func (t *Table) rename(i, j int) int {
	if t.a[i].Label == t.b[j].Label {
		return 0
	}
	return 1
}

// forests that begin where the trees that i and j head begin, up to i and j.
func (t *Table) forests(i, j int) *forests {
	f := &forests{table: t, x: t.a[i].Left, y: t.b[j].Left}
	f.cost = grid(i-f.x+2, j-f.y+2)
	for m := range f.cost {
		for n := range f.cost[m] {
			f.cost[m][n] = f.least(m, n)
		}
	}
	return f
}

// least: what it costs to make of m nodes n nodes, once all that is less is
// known.
func (f *forests) least(m, n int) int {
	if m == 0 || n == 0 {
		return m + n
	}
	return min(f.together(m, n), f.cost[m-1][n]+1, f.cost[m][n-1]+1)
}

// last: the numbers of the last of m nodes and of n nodes, and whether these
// nodes are one tree each.
func (f *forests) last(m, n int) (i, j int, one bool) {
	i, j = f.x+m-1, f.y+n-1
	return i, j, f.table.a[i].Left == f.x && f.table.b[j].Left == f.y
}

// ahead: how many of the forests' nodes stand ahead of the trees that i and j
// head.
func (f *forests) ahead(i, j int) (int, int) {
	return f.table.a[i].Left - f.x, f.table.b[j].Left - f.y
}

// together: what it costs if, of one tree each, the last node becomes the last
// node, or else the last tree becomes the last tree.
func (f *forests) together(m, n int) int {
	i, j, one := f.last(m, n)
	if one {
		return f.cost[m-1][n-1] + f.table.rename(i, j)
	}
	p, q := f.ahead(i, j)
	return f.cost[p][q] + f.table.trees[i][j]
}

// note puts into the table what those trees cost that begin where the forests
// do.
func (f *forests) note() {
	for m := 1; m < len(f.cost); m++ {
		for n := 1; n < len(f.cost[m]); n++ {
			if i, j, one := f.last(m, n); one {
				f.table.trees[i][j] = f.cost[m][n]
			}
		}
	}
}

// best: which of m nodes stay as which of n nodes in a least way. Where there
// are more such ways, the order of the questions chooses.
func (f *forests) best(m, n int) []api.Pair {
	switch {
	case m == 0 || n == 0:
		return nil
	case f.together(m, n) == f.cost[m][n]:
		return f.bestTogether(m, n)
	case f.cost[m-1][n]+1 == f.cost[m][n]:
		return f.best(m-1, n)
	}
	return f.best(m, n-1)
}

// bestTogether: the same, where the last ones become each other.
func (f *forests) bestTogether(m, n int) []api.Pair {
	i, j, one := f.last(m, n)
	if one {
		return append(f.best(m-1, n-1), api.Pair{A: i, B: j})
	}
	p, q := f.ahead(i, j)
	trees := f.table.forests(i, j)
	return append(f.best(p, q), trees.best(m-p, n-q)...)
}
