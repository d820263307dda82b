package vtscreen

import (
	"math"
	"slices"
	"testing"

	"lanyard/api"
)

// TestExecute: P6.3.
func TestExecute(t *testing.T) {
	checkLooks(t, 3, 20, "abc", []sent{
		{"\b", "abc||@0,2"},
		{"\b\b\b\b", "abc||@0,0"},
		{"\t", "abc||@0,8"},
		{"\t\t", "abc||@0,16"},
		{"\t\t\t", "abc||@0,19"},
		{"\t\t\t\t", "abc||@0,19"},
		{"\n", "abc||@1,3"},
		{"\v", "abc||@1,3"},
		{"\f", "abc||@1,3"},
		{"\n\n", "abc||@2,3"},
		{"\n\n\n", "||@2,3"},
		{"\r", "abc||@0,0"},
		{"\r\n", "abc||@1,0"},
	})
	for b := range byte(0x20) {
		if slices.Contains([]byte{7, 8, 9, 10, 11, 12, 13}, b) {
			continue
		}
		s := after(t, 2, 4, "abcd")
		s.Do(api.Action{Kind: api.ActExecute, Final: b})
		if look(s) != "abcd|@0,3+" || s.Bells() != 0 {
			t.Errorf("%x: %s", b, look(s))
		}
	}
}

// TestExecutePending: P6.3, which controls make the cursor not pending.
func TestExecutePending(t *testing.T) {
	checkLooks(t, 2, 4, "abcd", []sent{
		{"\a", "abcd|@0,3+"},
		{"\x00", "abcd|@0,3+"},
		{"\b", "abcd|@0,2"},
		{"\t", "abcd|@0,3"},
		{"\n", "abcd|@1,3"},
		{"\nx", "abcd|   x@1,3+"},
		{"\r", "abcd|@0,0"},
	})
	// Also where the screen scrolls, and where the cursor cannot move.
	checkLooks(t, 2, 4, "\r\nabcd", []sent{
		{"\n", "abcd|@1,3"},
		{"\nx", "abcd|   x@1,3+"},
		{"\x1bD", "abcd|@1,3"},
	})
	checkLooks(t, 3, 2, "\x1b[1;2r\x1b[3;1Hab", []sent{{"\n", "||ab@2,1"}, {"\x1bD", "||ab@2,1"}, {"\x1bE", "||ab@2,0"}})
	// A cursor that was restored is pending as it was.
	checkLooks(t, 2, 4, "abcd\x1b7\x1b[H\x1b8", []sent{{"", "abcd|@0,3+"}, {"\b\b\b\b", "abcd|@0,0"}})
}

// TestIndex: P6.4 (D, E, M) and the margins.
func TestIndex(t *testing.T) {
	const before = "a\r\nb\r\nc\r\nd\r\ne\x1b[2;4r"
	checkLooks(t, 5, 3, before, []sent{
		{"\x1b[1;2H\x1bD", "a|b|c|d|e@1,1"},
		{"\x1b[3;2H\x1bD", "a|b|c|d|e@3,1"},
		{"\x1b[4;2H\x1bD", "a|c|d||e@3,1"},
		{"\x1b[4;2H\n", "a|c|d||e@3,1"},
		{"\x1b[4;2H\x1bE", "a|c|d||e@3,0"},
		{"\x1b[3;2H\x1bE", "a|b|c|d|e@3,0"},
		{"\x1b[5;2H\x1bD", "a|b|c|d|e@4,1"},
		{"\x1b[5;2H\x1bE", "a|b|c|d|e@4,0"},
		{"\x1b[5;2H\x1bM", "a|b|c|d|e@3,1"},
		{"\x1b[3;2H\x1bM", "a|b|c|d|e@1,1"},
		{"\x1b[2;2H\x1bM", "a||b|c|e@1,1"},
		{"\x1b[1;2H\x1bM", "a|b|c|d|e@0,1"},
	})
	checkLooks(t, 2, 3, "abc", []sent{{"\x1bM", "|abc@0,2"}, {"\x1bMx", "  x|abc@0,2+"}})
	checkLooks(t, 2, 3, "\r\nabc", []sent{{"\x1bM", "|abc@0,2"}})
	checkLooks(t, 3, 2, "\x1b[2;3r\x1b[1;1Hab", []sent{{"\x1bM", "ab||@0,1"}})
	checkLooks(t, 1, 2, "ab", []sent{{"\n", "@0,1"}, {"\x1bM", "@0,1"}, {"\x1bE", "@0,0"}})
	s := after(t, 2, 2, "ab\r\ncd\x1b[1;1H\x1b[7;41m\x1bM")
	checkRow(t, s, 0, one(2*256, " ", " "))
	checkRow(t, s, 1, one(0, "a", "b"))
}

// TestSaveRestore: P6.4 (7, 8) and P6.5 (s, u).
func TestSaveRestore(t *testing.T) {
	for _, pair := range [][2]string{{"\x1b7", "\x1b8"}, {"\x1b[s", "\x1b[u"}, {"\x1b7", "\x1b[u"}, {"\x1b[5;5s", "\x1b8"}} {
		save, restore := pair[0], pair[1]
		checkLooks(t, 3, 4, "ab\r\nc", []sent{
			{save + "\x1b[H" + restore, "ab|c|@1,1"},
			{save + "\x1b[H" + restore + "\x1b[2J\x1b[H" + restore, "||@1,1"},
			{"def" + save + "\r" + restore, "ab|cdef|@1,3+"},
			{"def" + save + "\r" + restore + "x", "ab|cdef|x@2,1"},
			{"de" + save + "f" + restore + "x", "ab|cdex|@1,3+"},
			// Without anything saved.
			{restore, "ab|c|@0,0"},
		})
		s := after(t, 3, 4, "\x1b[1;31m\x1b[?6h"+save+"\x1b[m\x1b[?6l"+restore)
		if s.Attr() != 33 || s.Modes()&api.ScreenOrigin == 0 {
			t.Errorf("Attr %d, modes %d", s.Attr(), s.Modes())
		}
		s = after(t, 3, 4, save+"\x1b[1;31m\x1b[?6h\x1b[?7l\x1b[4h"+restore)
		if s.Attr() != 0 || s.Modes() != api.ScreenCursor|api.ScreenInsert {
			t.Errorf("Attr %d, modes %d", s.Attr(), s.Modes())
		}
		// ScreenOrigin does not move what is restored.
		checkLooks(t, 3, 4, "\x1b[2;3r\x1b[?6h\x1b[H"+save+"\x1b[?6l", []sent{{restore, "||@1,0"}, {restore + "\x1b[H", "||@1,0"}})
		checkLooks(t, 3, 4, "\x1b[1;2H"+save+"\x1b[2;3r\x1b[?6h", []sent{{restore, "||@0,1"}})
	}
	// The saved state is the initial one after a reset, a soft one, and Resize.
	for _, bytes := range []string{"\x1bc", "\x1b[!p"} {
		s := after(t, 3, 4, "\x1b[2;2H\x1b[31m\x1b7\x1b[H"+bytes+"\x1b[3;3H\x1b[1m\x1b8")
		if at, pending := s.Cursor(); at != (api.Spot{}) || pending || s.Attr() != 0 {
			t.Errorf("%q: %s, Attr %d", bytes, look(s), s.Attr())
		}
	}
	s := after(t, 3, 4, "\x1b[2;2H\x1b[31m\x1b7")
	s.Resize(3, 4)
	s.Put([]byte("\x1b8")...)
	if look(s) != "||@0,0" || s.Attr() != 0 {
		t.Errorf("%s, Attr %d", look(s), s.Attr())
	}
}

// TestReset: P6.4 (c).
func TestReset(t *testing.T) {
	s := after(t, 3, 20, "\a\x1b[31;1;44mab\x1b7\x1b[2;3r\x1b[4h\x1b[?6h\x1b[?7l\x1b[?25l\x1b[?2004h\x1b[3g\x1bH\x1b[2;3Hx")
	s.Put([]byte("\x1bc")...)
	if s.Bells() != 1 {
		t.Errorf("%d bells", s.Bells())
	}
	checkInitial(t, s)
	checkLooks(t, 2, 4, "abcd", []sent{{"\x1bc", "|@0,0"}, {"\x1bcx", "x|@0,1"}})
}

// TestSoftReset: P6.5 (the Inter ! with the Final p).
func TestSoftReset(t *testing.T) {
	s := after(t, 3, 20, "\x1b[31;1;44mab\x1b7\x1b[2;3r\x1b[4h\x1b[?6h\x1b[?7l\x1b[?25l\x1b[?2004h\x1b[3g\x1bH\x1b[1;3Hx\x1b[!p")
	m := newModel(3, 20)
	m.paste = true
	m.row, m.col = 1, 3
	m.stops = map[int]int{0: 0}
	m.grid[0][0], m.grid[0][1] = one(1+32+5*256, "a")[0], one(1+32+5*256, "b")[0]
	m.grid[1][2] = one(1+32+5*256, "x")[0]
	checkModel(t, s, m, "soft reset")
	checkLooks(t, 2, 4, "abcd", []sent{
		{"\x1b[!p", "abcd|@0,3"},
		{"\x1b[5!p", "abcd|@0,3"},
		{"\x1b[p", "abcd|@0,3+"},
		{"\x1b[\"p", "abcd|@0,3+"},
		{"\x1b[!!p", "abcd|@0,3+"},
		{"\x1b[!q", "abcd|@0,3+"},
		{"\x1b!p", "abcd|@0,3+"},
		// What is excepted is the Inter ! with the Final p, whatever the Private.
		{"\x1b[?!p", "abcd|@0,3"},
	})
}

// TestAlign: P6.4 (# 8).
func TestAlign(t *testing.T) {
	s := after(t, 3, 4, "\x1b[1;31m\u4e2d\x1b7\x1b[2;3r\x1b[4h\x1b[?6h\x1b[3gab\x1b#8")
	if look(s) != "EEEE|EEEE|EEEE@0,0" {
		t.Error(look(s))
	}
	checkRow(t, s, 2, one(0, "E", "E", "E", "E"))
	first, last := s.Margins()
	if first != 0 || last != 2 || s.Attr() != 33 || len(s.Tabs()) != 0 || s.Modes() != api.ScreenInsert|api.ScreenOrigin|api.ScreenWrap|api.ScreenCursor {
		t.Errorf("margins %d, %d, Attr %d, modes %d", first, last, s.Attr(), s.Modes())
	}
	checkLooks(t, 1, 2, "ab", []sent{{"\x1b#8", "EE@0,0"}, {"\x1b#8x", "xE@0,1"}})
}

// TestOtherEscapes: P6.4, sequences without an effect.
func TestOtherEscapes(t *testing.T) {
	for b := byte(0x20); b < 0x7f; b++ {
		for _, inter := range []string{"", "#", "(", " ", "##", "# "} {
			works := inter == "" && slices.Contains([]byte("DEMH78c"), b) || inter == "#" && b == '8'
			s := after(t, 2, 4, "abcd")
			s.Do(api.Action{Kind: api.ActEsc, Inter: inter, Final: b, Private: '?', Params: []int{3}, Text: "x", Rune: 'y'})
			if same := Same(s, after(t, 2, 4, "abcd")) && s.saved == (saved{}); same == works {
				t.Errorf("ESC %s %c: %s", inter, b, look(s))
			}
		}
	}
	s := after(t, 2, 4, "abcd")
	for b := 0x7f; b < 256; b++ {
		s.Do(api.Action{Kind: api.ActEsc, Final: byte(b)}, api.Action{Kind: api.ActExecute, Final: byte(b)}, api.Action{Kind: api.ActCsi, Final: byte(b)})
	}
	if look(s) != "abcd|@0,3+" {
		t.Error(look(s))
	}
}

// TestTabs: P6.3 (9), P6.4 (H), P6.5 (I, Z, g).
func TestTabs(t *testing.T) {
	checkLooks(t, 2, 20, "", []sent{
		{"\x1b[I", "|@0,8"},
		{"\x1b[0I", "|@0,8"},
		{"\x1b[2I", "|@0,16"},
		{"\x1b[3I", "|@0,19"},
		{"\x1b[9I", "|@0,19"},
		{"\x1b[8G\x1b[I", "|@0,8"},
		{"\x1b[9G\x1b[I", "|@0,16"},
		{"\x1b[Z", "|@0,0"},
		{"\x1b[20G\x1b[Z", "|@0,16"},
		{"\x1b[20G\x1b[2Z", "|@0,8"},
		{"\x1b[20G\x1b[3Z", "|@0,0"},
		{"\x1b[20G\x1b[9Z", "|@0,0"},
		{"\x1b[9G\x1b[Z", "|@0,0"},
		{"\x1b[10G\x1b[Z", "|@0,8"},
		{"\x1b[3G\x1bH\r\t", "|@0,2"},
		{"\x1b[3G\x1bH\r\t\t", "|@0,8"},
		{"\x1b[9G\x1b[g\r\t", "|@0,16"},
		{"\x1b[3g\t", "|@0,19"},
		{"\x1b[3g\x1b[20G\x1b[Z", "|@0,0"},
		{"\x1b[20G\x1bH\r\x1b[2I\t", "|@0,19"},
	})
	for bytes, want := range map[string][]int{
		"\x1b[3G\x1bH":              {2, 8, 16},
		"\x1bH":                     {0, 8, 16},
		"\x1b[20G\x1bH":             {8, 16, 19},
		"\x1b[9G\x1bH":              {8, 16},
		"\x1b[9G\x1b[g":             {16},
		"\x1b[9G\x1b[0g":            {16},
		"\x1b[g":                    {8, 16},
		"\x1b[9G\x1b[1g\x1b[2g":     {8, 16},
		"\x1b[9G\x1b[4g\x1b[1;3g":   {8, 16},
		"\x1b[3g":                   nil,
		"\x1b[3;1g":                 nil,
		"\x1b[3g\x1b[7G\x1bH":       {6},
		"\x1b[9G\x1b[?g\x1b[?3g":    {8, 16},
		"\x1b[3g\x1b[!p":            nil,
		"01234567890123456789\x1bH": {8, 16, 19},
	} {
		if got := after(t, 2, 20, bytes).Tabs(); !slices.Equal(got, want) {
			t.Errorf("%q: the tab stops are %v, not %v", bytes, got, want)
		}
	}
	checkLooks(t, 1, 200, "\x1b[3g\x1b[199G", []sent{{"\t", "@0,199"}, {"\t\t", "@0,199"}, {"\x1b[9I", "@0,199"}})
	checkLooks(t, 2, 4, "abcd", []sent{{"\x1b[I", "abcd|@0,3"}, {"\x1b[Z", "abcd|@0,0"}, {"\x1bH", "abcd|@0,3+"}, {"\x1b[g", "abcd|@0,3+"}, {"\x1b[3g", "abcd|@0,3+"}})
}

// TestMoves: P6.5 (A to H, f, d, and the byte 96).
func TestMoves(t *testing.T) {
	checkLooks(t, 5, 6, "\x1b[3;3H", []sent{
		{"\x1b[A", "||||@1,2"},
		{"\x1b[0A", "||||@1,2"},
		{"\x1b[2A", "||||@0,2"},
		{"\x1b[9A", "||||@0,2"},
		{"\x1b[B", "||||@3,2"},
		{"\x1b[2B", "||||@4,2"},
		{"\x1b[9B", "||||@4,2"},
		{"\x1b[65535B", "||||@4,2"},
		{"\x1b[C", "||||@2,3"},
		{"\x1b[3C", "||||@2,5"},
		{"\x1b[9C", "||||@2,5"},
		{"\x1b[D", "||||@2,1"},
		{"\x1b[2D", "||||@2,0"},
		{"\x1b[9D", "||||@2,0"},
		{"\x1b[E", "||||@3,0"},
		{"\x1b[9E", "||||@4,0"},
		{"\x1b[F", "||||@1,0"},
		{"\x1b[2F", "||||@0,0"},
		{"\x1b[9F", "||||@0,0"},
		{"\x1b[G", "||||@2,0"},
		{"\x1b[5G", "||||@2,4"},
		{"\x1b[9G", "||||@2,5"},
		{"\x1b[5`", "||||@2,4"},
		{"\x1b[`", "||||@2,0"},
		{"\x1b[d", "||||@0,2"},
		{"\x1b[5d", "||||@4,2"},
		{"\x1b[9d", "||||@4,2"},
		{"\x1b[H", "||||@0,0"},
		{"\x1b[2;4H", "||||@1,3"},
		{"\x1b[2;4f", "||||@1,3"},
		{"\x1b[;4H", "||||@0,3"},
		{"\x1b[4H", "||||@3,0"},
		{"\x1b[0;0H", "||||@0,0"},
		{"\x1b[9;9H", "||||@4,5"},
		{"\x1b[2;4;5H", "||||@1,3"},
	})
	for _, final := range "ABCDEFGHIZdf`" {
		s := after(t, 1, 2, "ab\x1b["+string(final))
		if _, pending := s.Cursor(); pending {
			t.Errorf("%c leaves the cursor pending", final)
		}
	}
	checkLooks(t, 2, 4, "abcd", []sent{{"\x1b[C", "abcd|@0,3"}, {"\x1b[D", "abcd|@0,2"}, {"\x1b[4G", "abcd|@0,3"}, {"\x1b[A", "abcd|@0,3"}})
}

// TestMovesMargins: P6.5 (A, B, E, F), which do not leave the margins, nor come to a halt at them from outside.
func TestMovesMargins(t *testing.T) {
	checkLooks(t, 7, 4, "\x1b[3;5r", []sent{
		{"\x1b[4;2H\x1b[9A", "||||||@2,1"},
		{"\x1b[4;2H\x1b[9B", "||||||@4,1"},
		{"\x1b[3;2H\x1b[A", "||||||@2,1"},
		{"\x1b[5;2H\x1b[B", "||||||@4,1"},
		{"\x1b[4;2H\x1b[9E", "||||||@4,0"},
		{"\x1b[4;2H\x1b[9F", "||||||@2,0"},
		{"\x1b[2;2H\x1b[9B", "||||||@6,1"},
		{"\x1b[2;2H\x1b[3B", "||||||@4,1"},
		{"\x1b[2;2H\x1b[9A", "||||||@0,1"},
		{"\x1b[6;2H\x1b[9A", "||||||@0,1"},
		{"\x1b[6;2H\x1b[9B", "||||||@6,1"},
		{"\x1b[6;2H\x1b[2F", "||||||@3,0"},
		{"\x1b[2;2H\x1b[2E", "||||||@3,0"},
	})
}

// TestMargins: P6.5 (r).
func TestMargins(t *testing.T) {
	for bytes, want := range map[string][2]int{
		"\x1b[r":                {0, 4},
		"\x1b[2;4r":             {1, 3},
		"\x1b[0;0r":             {0, 4},
		"\x1b[2r":               {1, 4},
		"\x1b[;3r":              {0, 2},
		"\x1b[2;9r":             {1, 4},
		"\x1b[2;5r":             {1, 4},
		"\x1b[4;5r":             {3, 4},
		"\x1b[1;2r":             {0, 1},
		"\x1b[2;4r\x1b[3;3r":    {1, 3},
		"\x1b[2;4r\x1b[4;3r":    {1, 3},
		"\x1b[2;4r\x1b[5r":      {1, 3},
		"\x1b[2;4r\x1b[6;9r":    {1, 3},
		"\x1b[2;4r\x1b[1;1r":    {1, 3},
		"\x1b[2;4r\x1b[r":       {0, 4},
		"\x1b[2;4r\x1b[?1;2r":   {1, 3},
		"\x1b[2;4r\x1b[>r":      {1, 3},
		"\x1b[2;4r\x1b[1;2!r":   {1, 3},
		"\x1b[2;4r\x1b[65535;r": {1, 3},
	} {
		if first, last := after(t, 5, 4, bytes).Margins(); first != want[0] || last != want[1] {
			t.Errorf("%q: the margins are %d, %d", bytes, first, last)
		}
	}
	checkLooks(t, 5, 4, "\x1b[3;1Habcd", []sent{
		{"\x1b[2;4r", "||abcd||@0,0"},
		{"\x1b[r", "||abcd||@0,0"},
		{"\x1b[?6h\x1b[3;3H\x1b[2;4r", "||abcd||@1,0"},
		{"\x1b[3;3r", "||abcd||@2,3+"},
	})
	// A screen of one row has no two rows.
	checkLooks(t, 1, 2, "ab", []sent{{"\x1b[r", "ab@0,1+"}, {"\x1b[1;1r", "ab@0,1+"}, {"\x1b[1;9r", "ab@0,1+"}})
}

// TestOrigin: P6.5 (?6), rows are counted from the first margin, and limited to the margins.
func TestOrigin(t *testing.T) {
	checkLooks(t, 6, 4, "\x1b[3;5r\x1b[6;4H", []sent{
		{"\x1b[?6h", "|||||@2,0"},
		{"\x1b[?6l", "|||||@0,0"},
		{"\x1b[?6h\x1b[2;2H", "|||||@3,1"},
		{"\x1b[?6h\x1b[3;2f", "|||||@4,1"},
		{"\x1b[?6h\x1b[9;9H", "|||||@4,3"},
		{"\x1b[?6h\x1b[2d", "|||||@3,0"},
		{"\x1b[?6h\x1b[9d", "|||||@4,0"},
		{"\x1b[?6h\x1b[2;2H\x1b[?6l", "|||||@0,0"},
		{"\x1b[?6h\x1b[2;2H\x1b[?6h", "|||||@2,0"},
		{"\x1b[?6h\x1b[r", "|||||@0,0"},
		// What is not counted from the margins is not limited to them, either.
		{"\x1b[H\x1b7\x1b[?6h\x1b8", "|||||@0,0"},
		{"\x1b[?6h\x1b[3G", "|||||@2,2"},
	})
	if s := after(t, 6, 4, "\x1b[?6h"); s.Modes()&api.ScreenOrigin == 0 {
		t.Error("ScreenOrigin is not set")
	}
	checkLooks(t, 2, 2, "ab", []sent{{"\x1b[?6h", "ab|@0,0"}, {"\x1b[?6l", "ab|@0,0"}})
	// Outside of the margins: a position that was restored.
	checkLooks(t, 6, 4, "\x1b[?6h\x1b[1;2H\x1b7\x1b[3;5r\x1b8", []sent{{"", "|||||@0,1"}, {"\x1b[B", "|||||@1,1"}, {"\x1b[2;2H", "|||||@3,1"}})
}

// TestModes: P6.5 (h, l, with and without ?).
func TestModes(t *testing.T) {
	const initial = api.ScreenWrap | api.ScreenCursor
	for bytes, want := range map[string]int{
		"":                            initial,
		"\x1b[4h":                     initial | api.ScreenInsert,
		"\x1b[4h\x1b[4l":              initial,
		"\x1b[4h\x1b[4h":              initial | api.ScreenInsert,
		"\x1b[1;4;9h":                 initial | api.ScreenInsert,
		"\x1b[h":                      initial,
		"\x1b[;h":                     initial,
		"\x1b[?h":                     initial,
		"\x1b[?6h":                    initial | api.ScreenOrigin,
		"\x1b[?7l":                    api.ScreenCursor,
		"\x1b[?25l":                   api.ScreenWrap,
		"\x1b[?25l\x1b[?25h":          initial,
		"\x1b[?2004h":                 initial | api.ScreenPaste,
		"\x1b[?2004h\x1b[?2004l":      initial,
		"\x1b[?6;2004h":               initial | api.ScreenOrigin | api.ScreenPaste,
		"\x1b[?7;25l":                 0,
		"\x1b[?4h":                    initial,
		"\x1b[6;2004h\x1b[7;25l":      initial,
		"\x1b[>4h\x1b[>7l":            initial,
		"\x1b[?2004;6!h\x1b[4!h":      initial,
		"\x1b[?2004;6 h":              initial,
		"\x1b[?2004h\x1b[?6h\x1b[!p":  initial | api.ScreenPaste,
		"\x1b[4h\x1b[?7;25l\x1b[!p":   initial,
		"\x1b[?2004h\x1b[?6;7;25;3h":  initial | api.ScreenPaste | api.ScreenOrigin,
		"\x1b[?1049h\x1b[?1h\x1b[20h": initial,
	} {
		if got := after(t, 3, 4, bytes).Modes(); got != want {
			t.Errorf("%q: modes %d, not %d", bytes, got, want)
		}
	}
	checkLooks(t, 2, 4, "abcd", []sent{{"\x1b[4h", "abcd|@0,3+"}, {"\x1b[?2004h", "abcd|@0,3+"}, {"\x1b[?25l", "abcd|@0,3+"}, {"\x1b[?1h", "abcd|@0,3+"}})
}

// TestOddParams: R1, numbers that no bytes come to.
func TestOddParams(t *testing.T) {
	for _, n := range []int{math.MinInt, math.MinInt + 1, -65536, -2, 65536, math.MaxInt - 1, math.MaxInt} {
		for final := range 256 {
			for _, private := range []byte{0, '?'} {
				s := after(t, 3, 9, "ab\u4e2d\x1b[2;4Hx\x1b[2;3r\x1b[2;2H")
				s.Do(api.Action{Kind: api.ActCsi, Private: private, Final: byte(final), Params: []int{n, n, n}})
				checkIntegrity(t, s, final)
			}
		}
	}
	// As many as are below 0 are none.
	for _, n := range []int{math.MinInt, -5, -2} {
		for _, final := range []byte("X@PLMSTbIZr") {
			s := after(t, 3, 9, "abcdefg\r\n\x1b[31mx\u4e2d\x1b[1;3H")
			want := s.Clone()
			s.Do(api.Action{Kind: api.ActCsi, Final: final, Params: []int{n, n}})
			if final == 'L' || final == 'M' {
				want.Put('\r')
			}
			if !Same(s, want) {
				t.Errorf("%c and %d: %s", final, n, look(s))
			}
		}
	}
	do := func(final byte, params ...int) *Screen {
		s := after(t, 3, 9, "\x1b[2;5H")
		s.Do(api.Action{Kind: api.ActCsi, Final: final, Params: params})
		return s
	}
	for _, c := range []struct {
		final byte
		want  string
	}{{'A', "||@0,4"}, {'B', "||@2,4"}, {'C', "||@1,8"}, {'D', "||@1,0"}, {'E', "||@2,0"}, {'F', "||@0,0"}, {'G', "||@1,8"}, {'d', "||@2,4"}, {'H', "||@2,8"}} {
		if got := look(do(c.final, math.MaxInt, math.MaxInt)); got != c.want {
			t.Errorf("%c: %s, not %s", c.final, got, c.want)
		}
	}
}
