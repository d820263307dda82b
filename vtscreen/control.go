package vtscreen

import "lanyard/api"

func (s *Screen) execute(code byte) {
	switch code {
	case '\a':
		s.bells.Add(1)
	case '\b':
		s.move(s.row, s.col-1)
	case '\t':
		s.tabRight(1)
	case '\n', '\v', '\f':
		s.index()
	case '\r':
		s.move(s.row, 0)
	}
}

func (s *Screen) escape(a api.Action) {
	switch {
	case a.Inter == "":
		s.plainEscape(a.Final)
	case a.Inter == "#" && a.Final == '8':
		s.align()
	}
}

func (s *Screen) plainEscape(final byte) {
	switch final {
	case 'D':
		s.index()
	case 'E':
		s.nextLine()
	case 'M':
		s.reverseIndex()
	case 'H':
		s.tabs[s.col] = true
	case '7':
		s.save()
	case '8':
		s.restore()
	case 'c':
		s.reset()
	}
}

// align shows a pattern by which the picture of a terminal is adjusted.
func (s *Screen) align() {
	s.fillRows(0, len(s.rows), api.Cell{Text: "E", Width: 1})
	s.top, s.bottom = 0, len(s.rows)-1
	s.cursor = cursor{}
}

// index moves the cursor down, or scrolls the margins up at their end. It is not pending then, also where it stays in its row.
func (s *Screen) index() {
	s.pending = false
	if s.row == s.bottom {
		s.scrollUp(s.top, s.bottom, 1)
		return
	}
	s.row = min(s.row+1, len(s.rows)-1)
}

// nextLine moves the cursor to the beginning of the row to which index moves it.
func (s *Screen) nextLine() {
	s.col = 0
	s.index()
}

// reverseIndex is index upward.
func (s *Screen) reverseIndex() {
	s.pending = false
	if s.row == s.top {
		s.scrollDown(s.top, s.bottom, 1)
		return
	}
	s.row = max(s.row-1, 0)
}

// move moves the cursor to a position, or to the nearest one on the screen.
func (s *Screen) move(row, col int) {
	s.cursor = cursor{row: limit(row, 0, len(s.rows)-1), col: limit(col, 0, s.cols()-1)}
}

// moveTo is move for a row that is counted from the first margin, and remains within the margins, while ScreenOrigin is set.
func (s *Screen) moveTo(row, col int) {
	if s.is(api.ScreenOrigin) {
		row = limit(s.top+row, s.top, s.bottom)
	}
	s.move(row, col)
}

// inMargins reports whether the cursor is within the margins.
func (s *Screen) inMargins() bool { return s.top <= s.row && s.row <= s.bottom }

// moveDown moves the cursor n rows down, or up if n is below 0; it does not leave the margins.
func (s *Screen) moveDown(n, col int) {
	row := s.row + n
	if s.inMargins() {
		row = limit(row, s.top, s.bottom)
	}
	s.move(row, col)
}

// tabRight moves the cursor n tab stops to the right, or to the last column.
func (s *Screen) tabRight(n int) {
	col := s.col
	for n > 0 && col < s.cols()-1 {
		col++
		if s.tabs[col] {
			n--
		}
	}
	s.move(s.row, col)
}

// tabLeft moves the cursor n tab stops to the left, or to the first column.
func (s *Screen) tabLeft(n int) {
	col := s.col
	for n > 0 && col > 0 {
		col--
		if s.tabs[col] {
			n--
		}
	}
	s.move(s.row, col)
}
