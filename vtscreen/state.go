package vtscreen

import "lanyard/api"

const tabWidth = 8

// initial returns the settings of a new screen of that size.
func initial(rows, cols int) settings {
	s := settings{bottom: rows - 1, modes: api.ScreenWrap | api.ScreenCursor}
	s.resetTabs(0, cols)
	return s
}

// resetTabs gives the columns from the one named first on the tab stops that they have initially on a screen of cols columns.
func (s *settings) resetTabs(first, cols int) {
	for col := first; col < len(s.tabs); col++ {
		s.tabs[col] = col > 0 && col < cols && col%tabWidth == 0
	}
}

// is reports whether a mode is set.
func (s *settings) is(mode int) bool { return s.modes&mode != 0 }

// setMode sets or clears a mode.
func (s *settings) setMode(mode int, on bool) {
	s.modes &^= mode
	if on {
		s.modes |= mode
	}
}

// blank returns the cell that is left where something is erased: only colors remain.
func (s *settings) blank() api.Cell {
	const looks = api.AttrBold | api.AttrUnder | api.AttrBlink | api.AttrReverse
	return api.Cell{Text: " ", Width: 1, Attr: s.attr &^ looks}
}

// reset restores the initial state, but for the size, the parser and the bells.
func (s *Screen) reset() {
	s.cursor = cursor{}
	s.settings = initial(s.Size())
	s.saved = saved{}
	s.last = 0
	s.clear(0, len(s.rows))
}

// softReset restores the settings that a program may have left behind; what is shown, the tab stops and pastes remain.
func (s *Screen) softReset() {
	s.top, s.bottom = 0, len(s.rows)-1
	s.setMode(api.ScreenInsert|api.ScreenOrigin, false)
	s.setMode(api.ScreenWrap|api.ScreenCursor, true)
	s.attr = 0
	s.saved = saved{}
	s.pending = false
}

func (s *Screen) save() {
	s.saved = saved{cursor: s.cursor, attr: s.attr, origin: s.is(api.ScreenOrigin)}
}

// restore returns to what was saved. Its position is on the screen, as Resize forgets it.
func (s *Screen) restore() {
	s.cursor = s.saved.cursor
	s.attr = s.saved.attr
	s.setMode(api.ScreenOrigin, s.saved.origin)
}
