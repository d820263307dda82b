package vtscreen

import (
	"lanyard/api"
	"lanyard/ucell"
)

// maxGrowing is the length of the longest Text that takes another rune of width 0, so that no cell grows without bound.
const maxGrowing = 32

func (s *Screen) print(r rune) {
	width := ucell.Width(r)
	if width == 0 {
		s.combine(r)
		return
	}
	wraps := s.is(api.ScreenWrap)
	if wraps && s.pending {
		s.nextLine()
	}
	if s.col+width > s.cols() {
		if !wraps {
			return
		}
		s.here().write(s.col, s.blank())
		s.nextLine()
	}
	if s.is(api.ScreenInsert) {
		s.here().insert(s.col, width, s.blank())
	}
	cells := [...]api.Cell{{Text: string(r), Width: width, Attr: s.attr}, {Attr: s.attr}}
	s.here().write(s.col, cells[:width]...)
	s.last = r
	s.advance(width)
}

// combine adds a rune of width 0 to the one that was printed ahead of the cursor.
func (s *Screen) combine(r rune) {
	at := s.col
	if !s.pending {
		at--
	}
	if at < 0 || ucell.Control(r) {
		return
	}
	l := s.here()
	if l[at].Width == 0 {
		at--
	}
	if len(l[at].Text) <= maxGrowing {
		l[at].Text += string(r)
	}
}

// here returns the row of the cursor.
func (s *Screen) here() line { return s.rows[s.row] }

// advance moves the cursor behind what was printed; at the end of the row the next rune decides whether it wraps.
func (s *Screen) advance(width int) {
	s.col += width
	if s.col == s.cols() {
		s.col--
		s.pending = true
	}
}

// repeat prints the last rune again; 0, if there is none, is a control, which prints nothing.
func (s *Screen) repeat(n int) {
	const most = 256
	for range min(n, most) {
		s.print(s.last)
	}
}
