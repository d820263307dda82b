package vtscreen

import (
	"strings"

	"lanyard/api"
)

// line is a row of cells. After each of its methods that change it no half of a wide cell is alone.
type line []api.Cell

func (l line) text() string {
	var b strings.Builder
	for _, c := range l {
		b.WriteString(c.Text)
	}
	return strings.TrimRight(b.String(), " ")
}

// write puts cells in the place of those at a column.
func (l line) write(at int, cells ...api.Cell) {
	copy(l[at:], cells)
	l.mend(at-1, at+len(cells))
}

// fill puts copies of c in the place of all from one column up to another.
func (l line) fill(from, to int, c api.Cell) {
	for i := from; i < to; i++ {
		l[i] = c
	}
	l.mend(from-1, to)
}

// insert lets n copies of c come at a column; as many are lost at the end.
func (l line) insert(at, n int, c api.Cell) {
	n = limit(n, 0, len(l)-at)
	copy(l[at+n:], l[at:])
	l.fill(at, at+n, c)
	l.mend(len(l) - 1)
}

// remove lets n cells go at a column; as many copies of c come at the end.
func (l line) remove(at, n int, c api.Cell) {
	n = limit(n, 0, len(l)-at)
	copy(l[at:], l[at+n:])
	l.fill(len(l)-n, len(l), c)
	l.mend(at-1, at)
}

// mend replaces what is alone at columns that have got another neighbor. All other halves of wide cells are as they were.
func (l line) mend(columns ...int) {
	for _, i := range columns {
		if i >= 0 && i < len(l) && l.isAlone(i) {
			l[i].Text, l[i].Width = " ", 1
		}
	}
}

// isAlone reports whether there is a half of a wide cell without the other one.
func (l line) isAlone(i int) bool {
	switch l[i].Width {
	case 2:
		return i == len(l)-1 || l[i+1].Width != 0
	case 0:
		return i == 0 || l[i-1].Width != 2
	}
	return false
}

// limit returns the number from low to high that is nearest to n.
func limit(n, low, high int) int { return min(max(n, low), high) }
