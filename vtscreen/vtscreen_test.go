package vtscreen

import (
	"math"
	"slices"
	"strconv"
	"strings"
	"testing"

	"lanyard/api"
	"lanyard/vtparse"
)

// must returns a new screen of a valid size.
func must(t *testing.T, rows, cols int) *Screen {
	t.Helper()
	s, err := New(rows, cols)
	if err != api.OK || s == nil {
		t.Fatalf("New(%d, %d): %v", rows, cols, err)
	}
	return s
}

// after returns a new screen to which the bytes were put.
func after(t *testing.T, rows, cols int, bytes string) *Screen {
	t.Helper()
	s := must(t, rows, cols)
	if err := s.Put([]byte(bytes)...); err != api.OK {
		t.Fatalf("Put(%q): %v", bytes, err)
	}
	return s
}

// look returns the texts of all rows and the cursor: "ab|c@1,0", and a + at the end if it is pending.
func look(s *Screen) string {
	var texts []string
	for _, text := range s.Rows() {
		texts = append(texts, text)
	}
	at, pending := s.Cursor()
	end := ""
	if pending {
		end = "+"
	}
	return strings.Join(texts, "|") + "@" + strconv.Itoa(at.Row) + "," + strconv.Itoa(at.Col) + end
}

// sent is what bytes leave on a screen.
type sent struct{ bytes, want string }

// checkLooks puts the bytes of each row to a screen of its own, behind those of before.
func checkLooks(t *testing.T, rows, cols int, before string, l []sent) {
	t.Helper()
	for _, c := range l {
		if got := look(after(t, rows, cols, before+c.bytes)); got != c.want {
			t.Errorf("%q: %s, not %s", c.bytes, got, c.want)
		}
	}
}

// one makes cells of Width 1 with an Attr.
func one(attr int, texts ...string) []api.Cell {
	var l []api.Cell
	for _, text := range texts {
		l = append(l, api.Cell{Text: text, Width: 1, Attr: attr})
	}
	return l
}

func two(attr int, text string) []api.Cell {
	return []api.Cell{{Text: text, Width: 2, Attr: attr}, {Attr: attr}}
}

func checkRow(t *testing.T, s *Screen, n int, want ...[]api.Cell) {
	t.Helper()
	if got := s.Row(n); !slices.Equal(got, slices.Concat(want...)) {
		t.Errorf("row %d is %v, not %v", n, got, slices.Concat(want...))
	}
}

// TestNew: P6.1 (New), the sizes that a screen can have.
func TestNew(t *testing.T) {
	for _, size := range [][2]int{{1, 2}, {1, 200}, {60, 2}, {60, 200}, {24, 80}} {
		s := must(t, size[0], size[1])
		if rows, cols := s.Size(); rows != size[0] || cols != size[1] {
			t.Errorf("%v: the size is %d, %d", size, rows, cols)
		}
	}
	for _, size := range [][2]int{{0, 2}, {1, 1}, {61, 200}, {60, 201}, {-1, 10}, {10, -1}, {0, 0}, {math.MaxInt, math.MaxInt}, {math.MinInt, 80}, {24, math.MinInt}} {
		if s, err := New(size[0], size[1]); s != nil || err != api.ErrSize {
			t.Errorf("New of %v: %v, %v", size, s, err)
		}
	}
	if api.ErrSize != 60 {
		t.Error("ErrSize is not 60")
	}
}

// checkInitial: the initial state, but for the bells.
func checkInitial(t *testing.T, s *Screen) {
	t.Helper()
	rows, cols := s.Size()
	checkModel(t, clean(s), newModel(rows, cols), "initial")
	// What is not to be seen is initial, too.
	s.Put([]byte("\x1b[b\x1b8")...)
	checkModel(t, clean(s), newModel(rows, cols), "initial, then a repetition and a restoration")
}

// clean returns a copy of s whose bell never rang.
func clean(s *Screen) *Screen {
	c := s.Clone()
	c.bells.Store(0)
	return c
}

// TestInitial: the initial state, on screens with and without tab stops.
func TestInitial(t *testing.T) {
	for _, size := range [][2]int{{1, 2}, {2, 8}, {3, 9}, {4, 16}, {5, 17}, {60, 200}} {
		checkInitial(t, must(t, size[0], size[1]))
	}
	s := must(t, 3, 20)
	if look(s) != "||@0,0" || s.Modes() != api.ScreenWrap|api.ScreenCursor || s.Attr() != 0 || s.Bells() != 0 {
		t.Errorf("%s, modes %d, Attr %d, bells %d", look(s), s.Modes(), s.Attr(), s.Bells())
	}
	if first, last := s.Margins(); first != 0 || last != 2 {
		t.Errorf("the margins are %d, %d", first, last)
	}
	if !slices.Equal(s.Tabs(), []int{8, 16}) {
		t.Errorf("the tab stops are %v", s.Tabs())
	}
	checkRow(t, must(t, 2, 3), 1, one(0, " ", " ", " "))
}

// TestExamples: the chapter's.
func TestExamples(t *testing.T) {
	checkLooks(t, 2, 4, "", []sent{
		{"abcd", "abcd|@0,3+"},
		{"abcde", "abcd|e@1,1"},
		{"abcde\r\n\n", "|@1,0"},
	})
	checkLooks(t, 1, 3, "\u4e00", []sent{
		{"\rx", "x@0,1"},
		{"\rx\x1b[2J\x1b[H", "@0,0"},
	})
	s := after(t, 1, 3, "\u4e00\rx")
	checkRow(t, s, 0, one(0, "x", " ", " "))
	if s := after(t, 2, 4, "\x1b[?7l"); s.Modes()&api.ScreenWrap != 0 {
		t.Errorf("modes %d", s.Modes())
	}
	if first, last := after(t, 4, 4, "\x1b[2;3r").Margins(); first != 1 || last != 2 {
		t.Errorf("the margins are %d, %d", first, last)
	}
	checkRow(t, after(t, 1, 2, "\x1b[1;31mX"), 0, one(api.AttrBold+2*api.AttrFore, "X"), one(0, " "))
}

// TestZeroObjects: R5.
func TestZeroObjects(t *testing.T) {
	for _, s := range []*Screen{nil, {}} {
		if s.Put('a') != api.ErrMade || s.Put() != api.ErrMade || s.Do() != api.ErrMade || s.Do(api.Action{Kind: 1, Rune: 'a'}) != api.ErrMade {
			t.Error("Put or Do does not return ErrMade")
		}
		// ErrMade comes first.
		if s.Resize(2, 4) != api.ErrMade || s.Resize(0, 0) != api.ErrMade {
			t.Error("Resize does not return ErrMade")
		}
		rows, cols := s.Size()
		first, last := s.Margins()
		at, pending := s.Cursor()
		if rows != 0 || cols != 0 || first != 0 || last != 0 || at != (api.Spot{}) || pending {
			t.Error("Size, Margins or Cursor returns something")
		}
		if s.Row(0) != nil || s.Text(0) != "" || s.Modes() != 0 || s.Attr() != 0 || s.Tabs() != nil || s.Bells() != 0 || s.Clone() != nil {
			t.Error("Row, Text, Modes, Attr, Tabs, Bells or Clone returns something")
		}
		for range s.Rows() {
			t.Error("Rows yields something")
		}
		if Same(s, s) || Same(s, nil) || Same(nil, s) || Same(s, must(t, 1, 2)) || Same(must(t, 1, 2), s) {
			t.Error("Same of a screen that no call returned")
		}
		if s != nil && (s.rows != nil || s.settings != settings{}) {
			t.Error("a call had an effect")
		}
	}
}

// TestRow: P6.1 (Row and Text), rows that there are not, and blanks at the end.
func TestRow(t *testing.T) {
	s := after(t, 3, 6, "\x1b[2;1H a\u4e2d\u0301 \x1b[3;6He\u0301")
	checkRow(t, s, 0, one(0, " ", " ", " ", " ", " ", " "))
	checkRow(t, s, 1, one(0, " ", "a"), two(0, "\u4e2d\u0301"), one(0, " ", " "))
	checkRow(t, s, 2, one(0, " ", " ", " ", " ", " ", "e\u0301"))
	for n, want := range []string{"", " a\u4e2d\u0301", "     e\u0301"} {
		if got := s.Text(n); got != want {
			t.Errorf("Text(%d) = %q", n, got)
		}
	}
	for _, n := range []int{-1, 3, math.MinInt, math.MaxInt} {
		if s.Row(n) != nil || s.Text(n) != "" {
			t.Errorf("row %d: %v, %q", n, s.Row(n), s.Text(n))
		}
	}
	// Only the rune 32 is a blank.
	if got := after(t, 1, 4, "a\u00a0").Text(0); got != "a\u00a0" {
		t.Errorf("Text = %q", got)
	}
	// A blank with an accent is more than a blank.
	if got := after(t, 1, 4, "a \u0301").Text(0); got != "a \u0301" {
		t.Errorf("Text = %q", got)
	}
}

// TestRows: P6.1 (Rows) and R3: what was there when it was asked for, again and again, up to where the loop ends.
func TestRows(t *testing.T) {
	s := after(t, 3, 4, "ab\r\n\r\ncd")
	rows := s.Rows()
	s.Put([]byte("\x1b[2J")...)
	s.Resize(1, 2)
	for range 2 {
		var got []string
		for n, text := range rows {
			got = append(got, strconv.Itoa(n)+text)
		}
		if !slices.Equal(got, []string{"0ab", "1", "2cd"}) {
			t.Errorf("rows %v", got)
		}
	}
	count := 0
	for range rows {
		count++
		if count == 2 {
			break
		}
	}
	if count != 2 {
		t.Errorf("%d rows before the break", count)
	}
}

// TestOwnership: R3, what is handed in is not changed, and what is handed out is the caller's.
func TestOwnership(t *testing.T) {
	b := []byte("ab\x1b[1;31mc\x1b]2;t\x07")
	old := slices.Clone(b)
	s := after(t, 2, 12, string(b))
	s.Put(b...)
	if !slices.Equal(b, old) {
		t.Errorf("Put changed its bytes: %q", b)
	}
	params := []int{1, 31}
	l := []api.Action{{Kind: api.ActCsi, Final: 'm', Params: params}, {Kind: api.ActPrint, Rune: 'x'}}
	s.Do(l...)
	if params[0] != 1 || params[1] != 31 || !vtparse.Same(l, []api.Action{{Kind: 4, Final: 'm', Params: []int{1, 31}}, {Kind: 1, Rune: 'x'}}) {
		t.Errorf("Do changed its actions: %v", l)
	}
	want := s.Clone()
	row, tabs := s.Row(0), s.Tabs()
	row[0].Text, tabs[0] = "?", 3
	if !Same(s, want) || s.Text(0) != "abcabcx" {
		t.Error("a result shares memory with the screen")
	}
	// An empty list and none are equal (R4).
	for _, err := range []api.Errno{s.Put(), s.Put(nil...), s.Put([]byte{}...), s.Do(), s.Do(nil...), s.Do([]api.Action{}...)} {
		if err != api.OK || !Same(s, want) {
			t.Errorf("nothing was put: %v", err)
		}
	}
}

// TestDo: P6.1 (Do), which does not use the parser of the screen, and P6.9.
func TestDo(t *testing.T) {
	s := after(t, 2, 8, "a\x1b[")
	if err := s.Do(api.Action{Kind: api.ActPrint, Rune: 'x'}, api.Action{Kind: api.ActExecute, Final: '\r'}); err != api.OK {
		t.Fatal(err)
	}
	if look(s) != "ax|@0,0" {
		t.Error(look(s))
	}
	// The parser is still within the sequence, also after an action that resets the screen.
	s.Do(api.Action{Kind: api.ActEsc, Final: 'c'})
	s.Put([]byte("2Cb")...)
	if look(s) != "  b|@0,3" {
		t.Error(look(s))
	}
}

// TestOtherKinds: P6.5, actions that have no effect.
func TestOtherKinds(t *testing.T) {
	s := after(t, 2, 8, "ab")
	want := s.Clone()
	for _, kind := range []int{0, -1, 5, 6, 7, 100, math.MaxInt, math.MinInt} {
		s.Do(api.Action{Kind: kind, Rune: 'x', Final: 'D'}, api.Action{Kind: kind, Final: 7})
	}
	s.Put([]byte("\x1b]0;x\x07\x1bPqx\x1b\\\x1bXx\x1b\\")...)
	if !Same(s, want) || s.Bells() != 0 {
		t.Error(look(s))
	}
}

// TestBells: P6.1 (Bells).
func TestBells(t *testing.T) {
	s := after(t, 2, 8, "\aab\a\a\x1b[\a3m\x1b]0;t\a")
	if s.Bells() != 4 || look(s) != "ab|@0,2" {
		t.Errorf("%d bells, %s", s.Bells(), look(s))
	}
	s.Put([]byte("\x1bc")...)
	s.Resize(3, 9)
	if s.Bells() != 4 || s.Clone().Bells() != 4 {
		t.Errorf("%d bells after a reset", s.Bells())
	}
	s.Do(api.Action{Kind: api.ActExecute, Final: 7}, api.Action{Kind: api.ActPrint, Rune: 7})
	if s.Bells() != 5 {
		t.Errorf("%d bells", s.Bells())
	}
}

// TestClone: P6.1 (Clone), in the same state, of which the parser is a part, and independent.
func TestClone(t *testing.T) {
	const before = "\x1b[2;3r\x1b[?6h\x1b[1;31mxy\x1b7\x1b[H\x1b[?7l\x1b[4h\x1b[3g\x1b[5G\x1bH\a\x1b[1;3"
	for _, behind := range []string{"", "H", "m", "Hq\x1b[2b", "H\x1b8z", "\x18\t", "\x1b[2J", "H\n\n\n", "\x1bc"} {
		s, m := after(t, 3, 9, before), newModel(3, 9)
		m.do(vtparse.New().Put([]byte(before)...)...)
		c := s.Clone()
		checkModel(t, c, m, before)
		c.Put([]byte(behind)...)
		checkModel(t, s, m, before)
		s.Put([]byte(behind)...)
		if !Same(s, c) || s.Bells() != c.Bells() {
			t.Errorf("%q: %s and %s", behind, look(s), look(c))
		}
	}
	s := after(t, 2, 4, "\xe4\xb8")
	c := s.Clone()
	s.Put(0xad)
	c.Put('x')
	if look(s) != "\u4e2d|@0,2" || look(c) != "\ufffd\ufffdx|@0,3" {
		t.Errorf("%s and %s", look(s), look(c))
	}
}

// TestSame: P6.1 (Same), all that is compared and all that is not.
func TestSame(t *testing.T) {
	base := func() *Screen { return after(t, 3, 12, "ab\x1b[2;2H") }
	if !Same(base(), base()) || !Same(base(), base().Clone()) {
		t.Error("two like ones are not the same")
	}
	s := base()
	if !Same(s, s) {
		t.Error("a screen is not the same as itself")
	}
	for _, bytes := range []string{
		"\x1b[1;1Hx\x1b[2;2H",              // a cell
		"\x1b[1;1H\x1b[1ma\x1b[m\x1b[2;2H", // its Attr
		"\x1b[C", "\x1b[A",                 // the cursor
		"\x1b[4h", "\x1b[?7l", "\x1b[?25l", "\x1b[?2004h", "\x1b[?6h\x1b[2;2H", // the modes
		"\x1b[2;3r\x1b[2;2H", "\x1b[1;2r\x1b[2;2H", // the margins
		"\x1b[1m", "\x1b[31m", // Attr
		"\x1bH", "\x1b[3g", // the tab stops
	} {
		other := base()
		other.Put([]byte(bytes)...)
		if Same(base(), other) || Same(other, base()) {
			t.Errorf("%q makes no difference", bytes)
		}
	}
	for _, bytes := range []string{"\a", "\x1b7", "\x1b[1;", "\xe4", "\x1b]0;t", "x\x1b[2;2H\x1b[X", "\x1b[?7h"} {
		other := base()
		other.Put([]byte(bytes)...)
		if !Same(base(), other) || !Same(other, base()) {
			t.Errorf("%q makes a difference", bytes)
		}
	}
	a, b := after(t, 2, 4, "abcd"), after(t, 2, 4, "abcd\x1b[1;4H")
	if Same(a, b) || Same(b, a) {
		t.Error("pending makes no difference")
	}
	for _, size := range [][2]int{{3, 11}, {3, 13}, {2, 12}, {4, 12}} {
		if Same(must(t, 3, 12), must(t, size[0], size[1])) {
			t.Errorf("the size %v makes no difference", size)
		}
	}
}

// TestSize: P6.8, only Resize changes the size.
func TestSize(t *testing.T) {
	s := after(t, 3, 9, "\x1b[8;5;5t\x1bc\x1b[?3h\x1b[!p\n\n\n\n\x1b#8")
	if rows, cols := s.Size(); rows != 3 || cols != 9 {
		t.Errorf("the size is %d, %d", rows, cols)
	}
}

// TestManyBytes: P6.9 and THE BOUND, more bytes than are parsed at a time, whose actions cost the most, on the greatest screen.
func TestManyBytes(t *testing.T) {
	for _, piece := range []string{"a", "\u4e2d", "e\u0301", "\n", "\x1b[2J", "\x1b#8", "\x1bc", "\x1b[4h\x1b[999b", "\x1b[4h\x1b[G\u4e2d", "\x1b[M", "\x1b[999L", "\x1b[I\r", "\x1b[1;1;1m", "\x1b["} {
		b := []byte(strings.Repeat(piece, 1+(1<<16)/len(piece)))
		s, m := must(t, 60, 200), must(t, 60, 200)
		s.Put(b...)
		m.Do(vtparse.New().Put(b...)...)
		if !Same(s, m) {
			t.Errorf("many times %q: %s and %s", piece, look(s), look(m))
		}
	}
}

// TestPieces: P6.9, in whatever pieces.
func TestPieces(t *testing.T) {
	b := []byte("ab\x1b[1;31mc\u4e2d\u0301\x1b]0;t\x07\x1b[2;3r\x1b[?6h\n\nx\x1b[2b\xff\x1bPq1\x1b\\y")
	whole := after(t, 4, 6, string(b))
	for size := 1; size <= len(b); size++ {
		s := must(t, 4, 6)
		for piece := range slices.Chunk(b, size) {
			s.Put(piece...)
		}
		if !Same(s, whole) {
			t.Errorf("in pieces of %d: %s, not %s", size, look(s), look(whole))
		}
	}
}
