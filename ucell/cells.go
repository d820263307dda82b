package ucell

import (
	"unicode/utf8"

	"lanyard/api"
)

const (
	tabStop = 8
	// maxGrowing is the length of the longest Text that takes another rune of width 0, so that no cell grows without bound.
	maxGrowing = 32
)

// Cells returns the cells that the runes of l occupy from the column col on.
func Cells(l []rune, col int) []api.Cell {
	// Only tabs ask for the column, and they ask for no more than its rest: a column near the greatest int cannot overflow.
	start := max(col, 0) % tabStop
	var cells []api.Cell
	for _, r := range l {
		cells = addRune(cells, r, start)
	}
	return cells
}

// Span returns the number of cells that Cells returns.
func Span(l []rune, col int) int { return len(Cells(l, col)) }

func addRune(cells []api.Cell, r rune, start int) []api.Cell {
	switch {
	case r == '\t':
		return addTab(cells, start)
	case Control(r) && r <= 0x7f:
		return append(cells, narrow('^'), narrow(r^0x40))
	case Control(r) || !utf8.ValidRune(r):
		return append(cells, narrow(api.Bad))
	}
	switch Width(r) {
	case 0:
		return addCombining(cells, r)
	case 2:
		return append(cells, api.Cell{Text: string(r), Width: 2}, api.Cell{})
	}
	return append(cells, narrow(r))
}

func narrow(r rune) api.Cell { return api.Cell{Text: string(r), Width: 1} }

func addTab(cells []api.Cell, start int) []api.Cell {
	for range tabStop - (start+len(cells))%tabStop {
		cells = append(cells, narrow(' '))
	}
	return cells
}

func addCombining(cells []api.Cell, r rune) []api.Cell {
	at := len(cells) - 1
	// The second cell of a wide rune has no Text: the rune joins the first one.
	for at >= 0 && cells[at].Text == "" {
		at--
	}
	if at < 0 {
		return append(cells, api.Cell{Text: " " + string(r), Width: 1})
	}
	if len(cells[at].Text) <= maxGrowing {
		cells[at].Text += string(r)
	}
	return cells
}
