package vtscreen

import (
	"math"
	"math/rand/v2"
	"slices"
	"testing"

	"lanyard/api"
)

// resizedTo returns a screen of 4 rows and 5 columns to which the bytes were put, in another size.
func resizedTo(t *testing.T, bytes string, rows, cols int) *Screen {
	t.Helper()
	s := after(t, 4, 5, bytes)
	if err := s.Resize(rows, cols); err != api.OK {
		t.Fatalf("Resize(%d, %d): %v", rows, cols, err)
	}
	if r, c := s.Size(); r != rows || c != cols {
		t.Errorf("the size is %d, %d, not %d, %d", r, c, rows, cols)
	}
	return s
}

// TestResize: P6.6, the rows and columns that go and come.
func TestResize(t *testing.T) {
	for _, c := range []struct {
		at         string
		rows, cols int
		want       string
	}{
		{"\x1b[2;3H", 4, 5, "abcde|fghij|klmno|pqrst@1,2"},
		{"\x1b[2;3H", 6, 5, "abcde|fghij|klmno|pqrst||@1,2"},
		{"\x1b[2;3H", 3, 5, "abcde|fghij|klmno@1,2"},
		{"\x1b[2;3H", 2, 5, "abcde|fghij@1,2"},
		{"\x1b[2;3H", 1, 5, "fghij@0,2"},
		{"\x1b[4;3H", 3, 5, "fghij|klmno|pqrst@2,2"},
		{"\x1b[4;3H", 1, 5, "pqrst@0,2"},
		{"\x1b[3;3H", 2, 5, "fghij|klmno@1,2"},
		{"\x1b[3;3H", 3, 5, "abcde|fghij|klmno@2,2"},
		{"\x1b[H", 1, 5, "abcde@0,0"},
		{"\x1b[2;3H", 4, 8, "abcde|fghij|klmno|pqrst@1,2"},
		{"\x1b[2;3H", 4, 4, "abcd|fghi|klmn|pqrs@1,2"},
		{"\x1b[2;3H", 4, 3, "abc|fgh|klm|pqr@1,2"},
		{"\x1b[2;3H", 4, 2, "ab|fg|kl|pq@1,1"},
		{"\x1b[4;5H", 2, 2, "kl|pq@1,1"},
		{"\x1b[4;5H", 5, 6, "abcde|fghij|klmno|pqrst|@3,4"},
		// The cursor is not pending any more, also where the size is the same.
		{"", 4, 5, "abcde|fghij|klmno|pqrst@3,4"},
		{"", 4, 6, "abcde|fghij|klmno|pqrst@3,4"},
		{"", 4, 4, "abcd|fghi|klmn|pqrs@3,3"},
		{"", 2, 5, "klmno|pqrst@1,4"},
	} {
		if got := look(resizedTo(t, "abcdefghijklmnopqrst"+c.at, c.rows, c.cols)); got != c.want {
			t.Errorf("%q, %d, %d: %s, not %s", c.at, c.rows, c.cols, got, c.want)
		}
	}
}

// TestResizeErrors: P6.6, sizes that cannot be, which leave everything as it is.
func TestResizeErrors(t *testing.T) {
	const before = "abcdefghijklmnopqrst\x1b7\x1b[2;3r\x1b[2;5Hx"
	for _, size := range [][2]int{{0, 5}, {4, 1}, {61, 5}, {4, 201}, {-1, -1}, {math.MaxInt, 5}, {4, math.MinInt}} {
		s := after(t, 4, 5, before)
		if err := s.Resize(size[0], size[1]); err != api.ErrSize {
			t.Errorf("%v: %v", size, err)
		}
		s.Put([]byte("\x1b8")...)
		if !Same(s, after(t, 4, 5, before+"\x1b8")) {
			t.Errorf("%v: %s", size, look(s))
		}
	}
	s := after(t, 4, 5, before)
	for _, size := range [][2]int{{1, 2}, {60, 200}, {60, 2}, {1, 200}} {
		if err := s.Resize(size[0], size[1]); err != api.OK {
			t.Errorf("%v: %v", size, err)
		}
		checkIntegrity(t, s, size)
	}
}

// TestResizeState: P6.6, what becomes initial and what remains.
func TestResizeState(t *testing.T) {
	const before = "\a\x1b[1;31;44m\x1b[2;3r\x1b[4h\x1b[?6h\x1b[?7l\x1b[?25l\x1b[?2004h\x1b[2;3Hx\x1b7"
	for _, size := range [][2]int{{4, 5}, {3, 5}, {6, 5}, {4, 9}, {2, 3}} {
		s := resizedTo(t, before, size[0], size[1])
		if first, last := s.Margins(); first != 0 || last != size[0]-1 {
			t.Errorf("%v: the margins are %d, %d", size, first, last)
		}
		if s.Modes() != api.ScreenInsert|api.ScreenOrigin|api.ScreenPaste || s.Attr() != 1+2*16+5*256 || s.Bells() != 1 {
			t.Errorf("%v: modes %d, Attr %d, bells %d", size, s.Modes(), s.Attr(), s.Bells())
		}
		s.Put([]byte("\x1b8")...)
		if at, _ := s.Cursor(); at != (api.Spot{}) || s.Attr() != 0 || s.Modes() != api.ScreenInsert|api.ScreenPaste {
			t.Errorf("%v: restored at %v, Attr %d, modes %d", size, at, s.Attr(), s.Modes())
		}
	}
	// The parser goes on within its sequence.
	s := resizedTo(t, "ab\x1b[2", 3, 6)
	s.Put('G', 'x')
	if look(s) != "ax||@0,2" {
		t.Error(look(s))
	}
}

// TestResizeCells: P6.6, the cells that come are blank with Attr 0, and halves of wide cells become blanks with their own.
func TestResizeCells(t *testing.T) {
	s := resizedTo(t, "\x1b[1;31;44ma\u4e2db\u0301\x1b[2;1Habc\u6587", 5, 6)
	const attr = 1 + 2*16 + 5*256
	checkRow(t, s, 0, one(attr, "a"), two(attr, "\u4e2d"), one(attr, "b\u0301"), one(0, " ", " "))
	checkRow(t, s, 1, one(attr, "a", "b", "c"), two(attr, "\u6587"), one(0, " "))
	checkRow(t, s, 4, one(0, " ", " ", " ", " ", " ", " "))
	s.Resize(2, 4)
	checkRow(t, s, 0, one(attr, "a"), two(attr, "\u4e2d"), one(attr, "b\u0301"))
	checkRow(t, s, 1, one(attr, "a", "b", "c", " "))
	s.Resize(2, 2)
	checkRow(t, s, 0, one(attr, "a", " "))
	s.Resize(2, 3)
	checkRow(t, s, 0, one(attr, "a", " "), one(0, " "))
}

// TestResizeTabs: P6.6, stops beyond the last column go, columns that come have stops at multiples of 8.
func TestResizeTabs(t *testing.T) {
	s := after(t, 2, 20, "\x1b[4G\x1bH\x1b[9G\x1b[g\x1b[20G\x1bH")
	for _, c := range []struct {
		cols int
		want []int
	}{
		{20, []int{3, 16, 19}},
		{24, []int{3, 16, 19}},
		{25, []int{3, 16, 19, 24}},
		{19, []int{3, 16}},
		{17, []int{3, 16}},
		{16, []int{3}},
		{41, []int{3, 16, 24, 32, 40}},
		{3, nil},
		{2, nil},
		{9, []int{8}},
		{8, nil},
		{200, []int{8, 16, 24, 32, 40, 48, 56, 64, 72, 80, 88, 96, 104, 112, 120, 128, 136, 144, 152, 160, 168, 176, 184, 192}},
	} {
		s.Resize(2, c.cols)
		if got := s.Tabs(); !slices.Equal(got, c.want) {
			t.Errorf("%d columns: %v, not %v", c.cols, got, c.want)
		}
	}
	s.Put('\r')
	if !Same(must(t, 2, 200), s) {
		t.Error("not the screen that New returns")
	}
}

// TestResizeOwnership: a clone keeps its size and cells.
func TestResizeOwnership(t *testing.T) {
	s := after(t, 3, 4, "ab\r\ncd")
	c := s.Clone()
	s.Resize(2, 3)
	s.Put([]byte("\x1b[Hxyz")...)
	if look(c) != "ab|cd|@1,2" || look(s) != "xyz|cd@0,2+" {
		t.Errorf("%s and %s", look(c), look(s))
	}
}

// TestResizeModel: P6.6 and P6.8, random sizes of random screens beside the model.
func TestResizeModel(t *testing.T) {
	r := rand.New(rand.NewPCG(66, 21))
	for range 300 {
		s := must(t, 5, 12)
		for range 20 {
			piece := []byte(randomPiece(r))
			s.Put(piece...)
			m := modelOf(s)
			rows, cols := 1+r.IntN(8), 2+r.IntN(30)
			s.Resize(rows, cols)
			m.resize(rows, cols)
			checkModel(t, s, m, piece)
			checkIntegrity(t, s, piece)
		}
	}
}

// modelOf returns a model that shows what s shows.
func modelOf(s *Screen) *model {
	m := newModel(s.Size())
	at, pending := s.Cursor()
	m.row, m.col, m.pending = at.Row, at.Col, pending
	m.first, m.end = s.Margins()
	modes := s.Modes()
	m.insert, m.origin, m.wrap, m.cursor, m.paste = modes&1 != 0, modes&2 != 0, modes&4 != 0, modes&8 != 0, modes&16 != 0
	m.attr, m.bells = s.Attr(), s.Bells()
	m.stops = map[int]int{}
	for _, c := range s.Tabs() {
		m.stops[c] = c
	}
	for n := range m.grid {
		m.grid[n] = s.Row(n)
	}
	return m
}
