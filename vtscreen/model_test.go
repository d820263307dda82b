package vtscreen

import (
	"math/rand/v2"
	"slices"
	"strings"
	"testing"
	"unicode/utf8"

	"lanyard/api"
	"lanyard/ucell"
	"lanyard/vtparse"
)

// model is the chapter word by word: it makes each row anew, and examines all rows after each action.
type model struct {
	grid       [][]api.Cell
	rows, cols int
	row, col   int
	pending    bool
	first, end int // the margins
	insert     bool
	origin     bool
	wrap       bool
	cursor     bool
	paste      bool
	attr       int
	stops      map[int]int
	kept       modelKept
	printed    []rune
	bells      int64
}

type modelKept struct {
	row, col int
	pending  bool
	attr     int
	origin   bool
}

func newModel(rows, cols int) *model {
	m := &model{rows: rows, cols: cols}
	m.reset()
	return m
}

func (m *model) reset() {
	*m = model{rows: m.rows, cols: m.cols, end: m.rows - 1, wrap: true, cursor: true, stops: map[int]int{}, bells: m.bells}
	for c := 8; c < m.cols; c += 8 {
		m.stops[c] = c
	}
	for range m.rows {
		m.grid = append(m.grid, m.blanks(m.cols))
	}
}

func (m *model) blanks(n int) []api.Cell {
	var l []api.Cell
	for range n {
		l = append(l, api.Cell{Text: " ", Width: 1, Attr: m.attr / 16 * 16})
	}
	return l
}

// examine replaces the halves of wide cells that are alone, by what all rows were.
func (m *model) examine() {
	for r, row := range m.grid {
		next := slices.Clone(row)
		for c, cell := range row {
			left := c > 0 && row[c-1].Width == 2
			right := c < m.cols-1 && row[c+1].Width == 0
			if cell.Width == 2 && !right || cell.Width == 0 && !left {
				next[c] = api.Cell{Text: " ", Width: 1, Attr: cell.Attr}
			}
		}
		m.grid[r] = next
	}
}

func (m *model) do(l ...api.Action) {
	for _, a := range l {
		m.one(a)
		m.examine()
	}
}

func (m *model) one(a api.Action) {
	switch a.Kind {
	case 1:
		m.print(a.Rune)
	case 2:
		m.execute(a.Final)
	case 3:
		m.escape(a.Inter, a.Final)
	case 4:
		switch {
		case a.Inter == "!" && a.Final == 'p':
			m.first, m.end = 0, m.rows-1
			m.insert, m.origin, m.wrap, m.cursor = false, false, true, true
			m.attr, m.kept, m.pending = 0, modelKept{}, false
		case a.Inter != "":
		case a.Private == '?' && (a.Final == 'h' || a.Final == 'l'):
			for _, n := range a.Params {
				m.mode(n, a.Final == 'h')
			}
		case a.Private == '?' && (a.Final == 'J' || a.Final == 'K'), a.Private == 0:
			m.csi(a)
		}
	}
}

func (m *model) print(r rune) {
	w := ucell.Width(r)
	if w == 0 {
		c := m.col
		if !m.pending {
			c--
		}
		if r <= 0x1f && r >= 0 || r >= 0x7f && r <= 0x9f || c < 0 {
			return
		}
		if m.grid[m.row][c].Width == 0 {
			c--
		}
		if len(m.grid[m.row][c].Text) < 33 {
			m.grid[m.row][c].Text += string(r)
		}
		return
	}
	if m.pending && m.wrap {
		m.col = 0
		m.index()
	}
	if w == 2 && m.col == m.cols-1 {
		if !m.wrap {
			return
		}
		m.grid[m.row][m.col] = m.blanks(1)[0]
		m.col = 0
		m.index()
	}
	row := m.grid[m.row]
	rest := row[m.col+w:]
	if m.insert {
		rest = row[m.col:]
	}
	cells := []api.Cell{{Text: string(r), Width: w, Attr: m.attr}, {Attr: m.attr}}
	m.grid[m.row] = slices.Concat(row[:m.col], cells[:w], rest)[:m.cols]
	m.printed = append(m.printed, r)
	if m.col+w > m.cols-1 {
		m.col, m.pending = m.cols-1, true
	} else {
		m.col, m.pending = m.col+w, false
	}
}

func (m *model) execute(b byte) {
	switch b {
	case 7:
		m.bells++
	case 8:
		m.to(m.row, m.col-1)
	case 9:
		m.tab(1, 1)
	case 10, 11, 12:
		m.index()
	case 13:
		m.to(m.row, 0)
	}
}

func (m *model) escape(inter string, b byte) {
	if inter == "#" && b == '8' {
		for r := range m.grid {
			m.grid[r] = slices.Repeat([]api.Cell{{Text: "E", Width: 1}}, m.cols)
		}
		m.first, m.end, m.row, m.col, m.pending = 0, m.rows-1, 0, 0, false
	}
	if inter != "" {
		return
	}
	switch b {
	case 'D':
		m.index()
	case 'E':
		m.col = 0
		m.index()
	case 'M':
		if m.row == m.first {
			m.down(m.first, m.end, 1)
		} else if m.row > 0 {
			m.row--
		}
		m.pending = false
	case 'H':
		m.stops[m.col] = m.col
	case '7':
		m.kept = modelKept{m.row, m.col, m.pending, m.attr, m.origin}
	case '8':
		m.to(m.kept.row, m.kept.col)
		m.pending, m.attr, m.origin = m.kept.pending, m.kept.attr, m.kept.origin
	case 'c':
		m.reset()
	}
}

func (m *model) index() {
	if m.row == m.end {
		m.up(m.first, m.end, 1)
	} else if m.row < m.rows-1 {
		m.row++
	}
	m.pending = false
}

// up scrolls the rows a to b by n.
func (m *model) up(a, b, n int) {
	for range min(n, b-a+1) {
		m.grid = slices.Insert(slices.Delete(m.grid, a, a+1), b, m.blanks(m.cols))
	}
}

func (m *model) down(a, b, n int) {
	for range min(n, b-a+1) {
		m.grid = slices.Insert(slices.Delete(m.grid, b, b+1), a, m.blanks(m.cols))
	}
}

func (m *model) to(row, col int) {
	m.row = max(0, min(row, m.rows-1))
	m.col = max(0, min(col, m.cols-1))
	m.pending = false
}

// toOrigin is to where ScreenOrigin is mentioned.
func (m *model) toOrigin(row, col int) {
	if m.origin {
		row = max(m.first, min(m.first+row, m.end))
	}
	m.to(row, col)
}

// tab moves n tab stops in a direction.
func (m *model) tab(n, step int) {
	for ; n > 0; n-- {
		for {
			m.to(m.row, m.col+step)
			_, stop := m.stops[m.col]
			if stop || m.col == 0 || m.col == m.cols-1 {
				break
			}
		}
		if m.col == 0 || m.col == m.cols-1 {
			return
		}
	}
}

func (m *model) mode(n int, on bool) {
	switch n {
	case 6:
		m.origin = on
		m.toOrigin(0, 0)
	case 7:
		m.wrap = on
		if !on {
			m.pending = false
		}
	case 25:
		m.cursor = on
	case 2004:
		m.paste = on
	}
}

// vertical moves the cursor n rows down, step by step; up, if n is below 0.
func (m *model) vertical(n int) {
	inside := m.first <= m.row && m.row <= m.end
	for ; n > 0 && m.row < m.rows-1 && !(inside && m.row == m.end); n-- {
		m.row++
	}
	for ; n < 0 && m.row > 0 && !(inside && m.row == m.first); n++ {
		m.row--
	}
	m.pending = false
}

func (m *model) csi(a api.Action) {
	n, n1 := vtparse.Param(a, 0, 1), vtparse.Param(a, 1, 1)
	q, q1 := vtparse.Param(a, 0, 0), vtparse.Param(a, 1, 0)
	inside := m.first <= m.row && m.row <= m.end
	switch a.Final {
	case 'A':
		m.vertical(-n)
	case 'B':
		m.vertical(n)
	case 'C':
		m.to(m.row, m.col+n)
	case 'D':
		m.to(m.row, m.col-n)
	case 'E':
		m.vertical(n)
		m.to(m.row, 0)
	case 'F':
		m.vertical(-n)
		m.to(m.row, 0)
	case 'G', 96:
		m.to(m.row, n-1)
	case 'd':
		m.toOrigin(n-1, m.col)
	case 'H', 'f':
		m.toOrigin(n-1, n1-1)
	case 'I':
		m.tab(n, 1)
	case 'Z':
		m.tab(n, -1)
	case 'J':
		m.erase(q, 0, m.rows)
		m.pending = false
	case 'K':
		m.erase(q, m.row, m.row+1)
		m.pending = false
	case 'X':
		for c := m.col; c < min(m.col+n, m.cols); c++ {
			m.grid[m.row][c] = m.blanks(1)[0]
		}
		m.pending = false
	case '@':
		for range min(n, m.cols) {
			m.grid[m.row] = slices.Insert(m.grid[m.row], m.col, m.blanks(1)...)[:m.cols]
		}
		m.pending = false
	case 'P':
		for range min(n, m.cols) {
			m.grid[m.row] = append(slices.Delete(m.grid[m.row], m.col, m.col+1), m.blanks(1)...)
		}
		m.pending = false
	case 'L', 'M':
		if inside && a.Final == 'L' {
			m.down(m.row, m.end, n)
		} else if inside {
			m.up(m.row, m.end, n)
		}
		if inside {
			m.col = 0
		}
		m.pending = false
	case 'S':
		m.up(m.first, m.end, n)
	case 'T':
		m.down(m.first, m.end, n)
	case 'g':
		if q == 0 {
			delete(m.stops, m.col)
		} else if q == 3 {
			m.stops = map[int]int{}
		}
	case 'h', 'l':
		if slices.Contains(a.Params, 4) {
			m.insert = a.Final == 'h'
		}
	case 'm':
		m.sgr(a.Params)
	case 'r':
		first, end := n-1, q1-1
		if q1 == 0 || end >= m.rows {
			end = m.rows - 1
		}
		if first >= 0 && first < end {
			m.first, m.end = first, end
			m.toOrigin(0, 0)
		}
	case 's':
		m.escape("", '7')
	case 'u':
		m.escape("", '8')
	case 'b':
		if len(m.printed) > 0 {
			for range min(n, 256) {
				m.print(m.printed[len(m.printed)-1])
				m.examine()
			}
		}
	}
}

func (m *model) erase(q, from, to int) {
	for r := from; r < to; r++ {
		for c := range m.cols {
			ahead := r < m.row || r == m.row && c <= m.col
			behind := r > m.row || r == m.row && c >= m.col
			if q == 0 && behind || q == 1 && ahead || q == 2 || q == 3 {
				m.grid[r][c] = m.blanks(1)[0]
			}
		}
	}
}

// modelStyles are the parameters of SGR other than colors, with what goes and what comes.
var modelStyles = map[int][2]int{
	1: {0, 1}, 4: {0, 2}, 5: {0, 4}, 7: {0, 8},
	22: {1, 0}, 24: {2, 0}, 25: {4, 0}, 27: {8, 0},
	39: {0xf0, 0}, 49: {0xf00, 0},
}

func (m *model) sgr(l []int) {
	if len(l) == 0 {
		l = []int{0}
	}
	for len(l) > 0 {
		q := l[0]
		l = l[1:]
		change, known := modelStyles[q]
		switch {
		case q <= 0 && q >= -1:
			m.attr = 0
		case (q == 38 || q == 48) && len(l) > 0 && l[0] == 5:
			l = l[min(2, len(l)):]
		case (q == 38 || q == 48) && len(l) > 0 && l[0] == 2:
			l = l[min(4, len(l)):]
		case known:
			m.attr = m.attr&^change[0] | change[1]
		case q >= 30 && q < 38, q >= 90 && q < 98:
			m.attr = m.attr&^0xf0 + 16*(q%10+1)
		case q >= 40 && q < 48, q >= 100 && q < 108:
			m.attr = m.attr&^0xf00 + 256*(q%10+1)
		}
	}
}

func (m *model) resize(rows, cols int) {
	above := max(0, m.row+1-rows)
	grid := m.grid[above:]
	grid = grid[:min(len(grid), rows)]
	blank := []api.Cell{{Text: " ", Width: 1}}
	for r := range grid {
		grid[r] = append(grid[r], slices.Repeat(blank, max(0, cols-m.cols))...)[:cols]
	}
	for len(grid) < rows {
		grid = append(grid, slices.Repeat(blank, cols))
	}
	for c := cols; c < m.cols; c++ {
		delete(m.stops, c)
	}
	for c := m.cols; c < cols; c++ {
		if c%8 == 0 {
			m.stops[c] = c
		}
	}
	m.grid, m.rows, m.cols = grid, rows, cols
	m.to(m.row-above, m.col)
	m.first, m.end, m.kept = 0, rows-1, modelKept{}
	m.examine()
}

func (m *model) modes() int {
	n := 0
	for i, on := range []bool{m.insert, m.origin, m.wrap, m.cursor, m.paste} {
		if on {
			n += 1 << i
		}
	}
	return n
}

func (m *model) tabs() []int {
	var l []int
	for c := range m.cols {
		if _, is := m.stops[c]; is {
			l = append(l, c)
		}
	}
	return l
}

// checkModel holds all that can be asked of s against m.
func checkModel(t *testing.T, s *Screen, m *model, what any) {
	t.Helper()
	if rows, cols := s.Size(); rows != m.rows || cols != m.cols {
		t.Fatalf("%q: the size is %d, %d, not %d, %d", what, rows, cols, m.rows, m.cols)
	}
	if at, pending := s.Cursor(); at != (api.Spot{Row: m.row, Col: m.col}) || pending != m.pending {
		t.Fatalf("%q: the cursor is at %v, %v, not at %d, %d, %v", what, at, pending, m.row, m.col, m.pending)
	}
	for n, row := range m.grid {
		if !slices.Equal(s.Row(n), row) {
			t.Fatalf("%q: row %d is\n%v, not\n%v", what, n, s.Row(n), row)
		}
	}
	if first, last := s.Margins(); first != m.first || last != m.end {
		t.Fatalf("%q: the margins are %d, %d, not %d, %d", what, first, last, m.first, m.end)
	}
	if s.Modes() != m.modes() || s.Attr() != m.attr || s.Bells() != m.bells {
		t.Fatalf("%q: modes %d, Attr %d, bells %d, not %d, %d, %d", what, s.Modes(), s.Attr(), s.Bells(), m.modes(), m.attr, m.bells)
	}
	if !slices.Equal(s.Tabs(), m.tabs()) {
		t.Fatalf("%q: the tab stops are %v, not %v", what, s.Tabs(), m.tabs())
	}
}

// checkIntegrity: P6.8.
func checkIntegrity(t *testing.T, s *Screen, what any) {
	t.Helper()
	rows, cols := s.Size()
	at, pending := s.Cursor()
	if at.Row < 0 || at.Row >= rows || at.Col < 0 || at.Col >= cols || pending && at.Col != cols-1 {
		t.Fatalf("%q: the cursor is at %v, %v", what, at, pending)
	}
	if first, last := s.Margins(); first < 0 || first > last || last >= rows {
		t.Fatalf("%q: the margins are %d, %d", what, first, last)
	}
	for n := range rows {
		row := s.Row(n)
		if len(row) != cols {
			t.Fatalf("%q: row %d has %d cells", what, n, len(row))
		}
		for c, cell := range row {
			checkCell(t, row, c, what)
			if len(cell.Text) > 36 || !utf8.ValidString(cell.Text) {
				t.Fatalf("%q: row %d has the Text %q", what, n, cell.Text)
			}
		}
	}
}

func checkCell(t *testing.T, row []api.Cell, c int, what any) {
	t.Helper()
	fits := false
	switch row[c].Width {
	case 0:
		fits = c > 0 && row[c-1].Width == 2 && row[c].Text == ""
	case 1:
		fits = row[c].Text != ""
	case 2:
		fits = c < len(row)-1 && row[c+1].Width == 0 && row[c].Text != ""
	}
	if !fits {
		t.Fatalf("%q: column %d of %v", what, c, row)
	}
}

// randomPiece returns bytes of a kind that leads to many states of a screen.
func randomPiece(r *rand.Rand) string {
	const finals = "ABCDEFGHIJKLMPSTXZ@`bdfghlmrsup"
	one := func(l ...string) string { return l[r.IntN(len(l))] }
	number := func() string {
		return one("", "", "0", "1", "1", "2", "2", "3", "4", "5", "6", "7", "8", "9", "12", "25", "38", "48", "31", "46", "97", "105", "255", "256", "257", "2004", "65535", "99999")
	}
	switch r.IntN(12) {
	case 0, 1, 2:
		return one("a", "b", "abc", "xyz", "abcdefgh", " ", "\u00e9")
	case 3, 4:
		return one("\u4e2d", "\u4e2d\u6587", "\uac00", "\U0001f600", "\U0001f600a")
	case 5:
		return one("\u0301", "\u0302\u0303", "\u200b", "\ufe0f", strings.Repeat("\u0301", 20))
	case 6:
		return one("\a", "\b", "\t", "\n", "\v", "\f", "\r", "\r\n", "\x00", "\x0e", "\x7f")
	case 7:
		return "\x1b" + one("D", "E", "M", "H", "7", "8", "7", "8", "#8", "Z", "(B", "#7", " 8", "=", ">") + one("", "", "", "", "", "", "", "", "\x1bc")
	case 8:
		return "\x1b[?" + one("6", "7", "25", "2004", "6;7", "1", "0", "") + one("h", "h", "l", "J", "K", "m", "c")
	case 9:
		return one("\x1b[4h", "\x1b[4l", "\x1b[!p", "\x1b[>c", "\x1b[>h", "\x1b[ q", "\x1b]0;t\x07", "\x1bPq12\x1b\\", "\xff", "\xe4\xb8", "\x1b[5\x18", "\x1b[2 p", "\x1b[!q", "\x1b[=4h", "\x1b[>J")
	}
	s := "\x1b[" + number()
	for range r.IntN(3) {
		s += ";" + number()
	}
	return s + string(finals[r.IntN(len(finals))])
}

// TestModelPieces: P6.1 to P6.7 and P6.9, random bytes beside the model, on screens of many sizes, with the state compared after each piece.
func TestModelPieces(t *testing.T) {
	r := rand.New(rand.NewPCG(6, 21))
	sizes := [][2]int{{1, 2}, {1, 3}, {2, 2}, {2, 4}, {3, 5}, {4, 8}, {4, 9}, {5, 18}, {6, 40}}
	for round := range 4000 {
		rows, cols := sizes[round%len(sizes)][0], sizes[round%len(sizes)][1]
		s, m, p := must(t, rows, cols), newModel(rows, cols), vtparse.New()
		var all string
		for range 40 {
			piece := randomPiece(r)
			all += piece
			s.Put([]byte(piece)...)
			m.do(p.Put([]byte(piece)...)...)
			checkModel(t, s, m, all)
			if r.IntN(40) == 0 {
				rows, cols = 1+r.IntN(6), 2+r.IntN(20)
				s.Resize(rows, cols)
				m.resize(rows, cols)
				checkModel(t, s, m, all+"<resize>")
			}
		}
		checkIntegrity(t, s, all)
	}
}

// TestModelActions: P6.1 to P6.5, random actions by Do beside the model, among them ones that no bytes come to.
func TestModelActions(t *testing.T) {
	r := rand.New(rand.NewPCG(21, 6))
	for range 2000 {
		s, m := must(t, 4, 10), newModel(4, 10)
		for range 60 {
			a := randomAction(r)
			s.Do(a)
			m.do(a)
			checkModel(t, s, m, []api.Action{a})
		}
	}
}

func randomAction(r *rand.Rand) api.Action {
	a := api.Action{
		Kind:  r.IntN(8),
		Rune:  []rune{'a', 'b', 0x4e2d, 0x301, 7, 0x85, -1, 0xd800, 0x110000, 0}[r.IntN(10)],
		Final: byte(r.IntN(256)),
		Text:  "t",
	}
	if r.IntN(2) == 0 {
		a.Kind = api.ActCsi
		a.Final = byte('@' + r.IntN(64))
	}
	if r.IntN(4) == 0 {
		a.Private = []byte{'?', '?', '>', 'x'}[r.IntN(4)]
	}
	if r.IntN(8) == 0 {
		a.Inter = []string{"#", "!", " ", "##"}[r.IntN(4)]
		a.Final = []byte{'8', 'p', 'p', 'J'}[r.IntN(4)]
	}
	for range r.IntN(4) {
		a.Params = append(a.Params, []int{-1, 0, 1, 2, 3, 4, 5, 6, 7, 25, 38, 300, 65535}[r.IntN(13)])
	}
	return a
}

// FuzzPut: P6.8 and P6.9, whatever bytes, in pieces and beside the model.
func FuzzPut(f *testing.F) {
	f.Add([]byte("abc\x1b[2;3r\x1b[?6h\u4e2d\r\nx"), uint8(3), uint8(5), uint8(4))
	f.Add([]byte("\x1b[4h\u4e2d\x1b[G\x1b[31;1m\x1b[P\x1b[2J\x1b[9b"), uint8(2), uint8(9), uint8(1))
	f.Fuzz(func(t *testing.T, b []byte, rows, cols, cut uint8) {
		s, err := New(int(rows%8), int(cols%24))
		if err != api.OK {
			return
		}
		whole := s.Clone()
		m := newModel(s.Size())
		at := min(int(cut), len(b))
		s.Put(b[:at]...)
		s.Put(b[at:]...)
		whole.Put(b...)
		m.do(vtparse.New().Put(b...)...)
		checkModel(t, s, m, b)
		checkModel(t, whole, m, b)
		checkIntegrity(t, s, b)
	})
}
