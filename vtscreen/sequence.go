package vtscreen

import (
	"lanyard/api"
	"lanyard/vtparse"
)

// param returns parameter i, or other in its place. What Do is given may be any number: beyond api.MaxParam all of them do the same, and sums with these do not overflow.
func param(a api.Action, i, other int) int {
	return limit(vtparse.Param(a, i, other), -api.MaxParam, api.MaxParam)
}

func (s *Screen) control(a api.Action) {
	switch {
	case a.Inter == "!" && a.Final == 'p':
		s.softReset()
	case a.Inter != "":
		// No other sequence with an Inter has an effect.
	case a.Private == '?':
		s.private(a)
	case a.Private == 0:
		s.sequence(a)
	}
}

func (s *Screen) private(a api.Action) {
	switch a.Final {
	case 'J', 'K':
		s.edit(a)
	case 'h', 'l':
		for _, mode := range a.Params {
			s.setPrivate(mode, a.Final == 'h')
		}
	}
}

func (s *Screen) setPrivate(mode int, on bool) {
	switch mode {
	case 6:
		s.setMode(api.ScreenOrigin, on)
		s.moveTo(0, 0)
	case 7:
		s.setMode(api.ScreenWrap, on)
		s.pending = s.pending && on
	case 25:
		s.setMode(api.ScreenCursor, on)
	case 2004:
		s.setMode(api.ScreenPaste, on)
	}
}

func (s *Screen) sequence(a api.Action) {
	n := param(a, 0, 1)
	switch a.Final {
	case 'A', 'B', 'C', 'D', 'E', 'F', 'G', '`', 'H', 'I', 'Z', 'd', 'f':
		s.travel(a.Final, n, param(a, 1, 1))
	case 'J', 'K', 'X', '@', 'P', 'L', 'M':
		s.edit(a)
	case 'S':
		s.scrollUp(s.top, s.bottom, n)
	case 'T':
		s.scrollDown(s.top, s.bottom, n)
	case 'b':
		s.repeat(n)
	case 'g':
		s.removeTabs(param(a, 0, 0))
	case 'h', 'l':
		for _, mode := range a.Params {
			if mode == 4 {
				s.setMode(api.ScreenInsert, a.Final == 'h')
			}
		}
	case 'm':
		s.style(a)
	case 'r':
		s.setMargins(n-1, param(a, 1, 0)-1)
	case 's':
		s.save()
	case 'u':
		s.restore()
	}
}

// travel does the sequences that move the cursor and do nothing else.
func (s *Screen) travel(final byte, n, m int) {
	switch final {
	case 'A':
		s.moveDown(-n, s.col)
	case 'B':
		s.moveDown(n, s.col)
	case 'C':
		s.move(s.row, s.col+n)
	case 'D':
		s.move(s.row, s.col-n)
	case 'E':
		s.moveDown(n, 0)
	case 'F':
		s.moveDown(-n, 0)
	case 'G', '`':
		s.move(s.row, n-1)
	case 'H', 'f':
		s.moveTo(n-1, m-1)
	case 'I':
		s.tabRight(n)
	case 'Z':
		s.tabLeft(n)
	case 'd':
		s.moveTo(n-1, s.col)
	}
}

// edit does the sequences that change cells. The cursor is not pending then, also where they change none.
func (s *Screen) edit(a api.Action) {
	n, q := param(a, 0, 1), param(a, 0, 0)
	s.pending = false
	switch a.Final {
	case 'J':
		s.erase(q, 0, len(s.rows))
	case 'K':
		s.erase(q, s.row, s.row+1)
	case 'X':
		s.here().fill(s.col, min(s.col+n, s.cols()), s.blank())
	case '@':
		s.here().insert(s.col, n, s.blank())
	case 'P':
		s.here().remove(s.col, n, s.blank())
	case 'L':
		if s.inMargins() {
			s.scrollDown(s.row, s.bottom, n)
			s.col = 0
		}
	case 'M':
		if s.inMargins() {
			s.scrollUp(s.row, s.bottom, n)
			s.col = 0
		}
	}
}

// erase makes cells blank behind the cursor, ahead of it, or all of them, in the rows from one, up to another, among which is that of the cursor.
func (s *Screen) erase(which, from, to int) {
	switch which {
	case 0:
		s.here().fill(s.col, s.cols(), s.blank())
		s.clear(s.row+1, to)
	case 1:
		s.clear(from, s.row)
		s.here().fill(0, s.col+1, s.blank())
	case 2, 3:
		s.clear(from, to)
	}
}

func (s *Screen) removeTabs(which int) {
	switch which {
	case 0:
		s.tabs[s.col] = false
	case 3:
		s.tabs = [api.MaxCols]bool{}
	}
}

// setMargins lets the margins be the rows from top to bottom, where -1 is the last row of the screen, if they are two or more.
func (s *Screen) setMargins(top, bottom int) {
	last := len(s.rows) - 1
	if bottom == -1 || bottom > last {
		bottom = last
	}
	if top < 0 || top >= bottom {
		return
	}
	s.top, s.bottom = top, bottom
	s.moveTo(0, 0)
}
