package vtscreen

import "lanyard/api"

// Resize gives the screen another size.
func (s *Screen) Resize(rows, cols int) api.Errno {
	if !s.usable() {
		return api.ErrMade
	}
	if !validSize(rows, cols) {
		return api.ErrSize
	}
	above := max(s.row+1-rows, 0)
	s.resetTabs(min(s.cols(), cols), cols)
	s.rows = resized(s.rows[above:], rows, cols)
	s.move(s.row-above, s.col)
	s.top, s.bottom = 0, rows-1
	s.saved = saved{}
	return api.OK
}

// resized returns the beginnings of lines on a screen of that size.
func resized(lines []line, rows, cols int) []line {
	l := blankLines(rows, cols)
	for n := range min(rows, len(lines)) {
		copy(l[n], lines[n])
		l[n].mend(cols - 1)
	}
	return l
}
