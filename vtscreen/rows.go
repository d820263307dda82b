package vtscreen

import (
	"slices"

	"lanyard/api"
)

// blankLines returns lines as a new screen has them.
func blankLines(rows, cols int) []line {
	var none settings
	l := make([]line, rows)
	for n := range l {
		l[n] = make(line, cols)
		l[n].fill(0, cols, none.blank())
	}
	return l
}

// clear makes the rows from one up to another blank.
func (s *Screen) clear(from, to int) { s.fillRows(from, to, s.blank()) }

func (s *Screen) fillRows(from, to int, c api.Cell) {
	for _, l := range s.rows[from:to] {
		l.fill(0, len(l), c)
	}
}

// scrollUp lets the first n of the rows from first to last go, and as many blank ones follow the others.
func (s *Screen) scrollUp(first, last, n int) {
	n = limit(n, 0, last+1-first)
	rotate(s.rows[first:last+1], n)
	s.clear(last+1-n, last+1)
}

// scrollDown is scrollUp in the other direction.
func (s *Screen) scrollDown(first, last, n int) {
	n = limit(n, 0, last+1-first)
	rotate(s.rows[first:last+1], last+1-first-n)
	s.clear(first, first+n)
}

// rotate lets the first n lines follow the others, so that the cells of those that go serve those that come.
func rotate(lines []line, n int) {
	first := slices.Clone(lines[:n])
	copy(lines, lines[n:])
	copy(lines[len(lines)-n:], first)
}
