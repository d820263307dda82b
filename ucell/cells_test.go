package ucell

import (
	"math"
	"slices"
	"strings"
	"testing"

	"lanyard/api"
)

const badText = "\xef\xbf\xbd"

// one makes cells of Width 1, a Text each.
func one(texts ...string) []api.Cell {
	var l []api.Cell
	for _, s := range texts {
		l = append(l, api.Cell{Text: s, Width: 1})
	}
	return l
}

func two(text string) []api.Cell { return []api.Cell{{Text: text, Width: 2}, {}} }

func blanks(n int) []api.Cell { return one(slices.Repeat([]string{" "}, n)...) }

func checkCells(t *testing.T, l []rune, col int, want []api.Cell) {
	t.Helper()
	if got := Cells(l, col); !slices.Equal(got, want) {
		t.Errorf("Cells(%x, %d) = %+v, not %+v", l, col, got, want)
	}
	if got := Span(l, col); got != len(want) {
		t.Errorf("Span(%x, %d) = %d, not %d", l, col, got, len(want))
	}
}

// TestCellsOrdinary: P1.3, the chapter's examples and plain text.
func TestCellsOrdinary(t *testing.T) {
	checkCells(t, nil, 0, nil)
	checkCells(t, nil, 5, nil)
	checkCells(t, []rune("ab c"), 3, one("a", "b", " ", "c"))
	checkCells(t, []rune{'a', '\t', 'b'}, 0, slices.Concat(one("a"), blanks(7), one("b")))
	checkCells(t, []rune{1, 'e', 0x301, 0x4e00}, 0, slices.Concat(one("^", "A", "e\u0301"), two("\u4e00")))
	checkCells(t, []rune{0x4e2d, 'a'}, 0, slices.Concat(two("\u4e2d"), one("a")))
	checkCells(t, []rune{'e', 0x301}, 0, one("e\u0301"))
	checkCells(t, []rune{0xe9, 0x1f600, api.Bad}, 0, slices.Concat(one("\u00e9"), two("\U0001f600"), one(badText)))
}

// TestCellsTabs: P1.3, a tab in each column, columns below 0, and columns at the end of the integers.
func TestCellsTabs(t *testing.T) {
	for col := range 25 {
		checkCells(t, []rune{'\t'}, col, blanks(8-col%8))
		checkCells(t, []rune{'\t', '\t'}, col, blanks(16-col%8))
	}
	for _, col := range []int{-1, -7, -8, -9, math.MinInt} {
		checkCells(t, []rune{'\t'}, col, blanks(8))
		checkCells(t, []rune{'a', '\t'}, col, slices.Concat(one("a"), blanks(7)))
	}
	checkCells(t, []rune{'\t', '\t'}, math.MaxInt, blanks(9))
	checkCells(t, []rune{'a', '\t'}, math.MaxInt-1, slices.Concat(one("a"), blanks(1)))
	checkCells(t, []rune{0x4e2d, '\t', 'x'}, 5, slices.Concat(two("\u4e2d"), blanks(1), one("x")))
	checkCells(t, []rune{1, '\t', 'x'}, 0, slices.Concat(one("^", "A"), blanks(6), one("x")))
	checkCells(t, []rune{'e', 0x301, '\t'}, 0, slices.Concat(one("e\u0301"), blanks(7)))
}

// TestCellsControls: P1.3, every control, and values that are not valid runes.
func TestCellsControls(t *testing.T) {
	for r := rune(0); r < 0x20; r++ {
		if r != '\t' {
			checkCells(t, []rune{r}, 0, one("^", string("@ABCDEFGHIJKLMNOPQRSTUVWXYZ[\\]^_"[r])))
		}
	}
	checkCells(t, []rune{0x7f}, 0, one("^", "?"))
	for r := rune(0x80); r <= 0x9f; r++ {
		checkCells(t, []rune{r}, 0, one(badText))
	}
	for _, r := range []rune{-1, 0xd800, 0xdfff, 0x110000, 1<<31 - 1, -1 << 31} {
		checkCells(t, []rune{'a', r}, 0, one("a", badText))
	}
	checkCells(t, []rune{0xa0}, 0, one("\u00a0"))
}

// TestCellsCombining: P1.3, what a rune of width 0 is appended to.
func TestCellsCombining(t *testing.T) {
	checkCells(t, []rune{0x301}, 0, one(" \u0301"))
	checkCells(t, []rune{0x301, 0x302, 'a'}, 7, one(" \u0301\u0302", "a"))
	checkCells(t, []rune{0x4e2d, 0x301, 0x302}, 0, two("\u4e2d\u0301\u0302"))
	checkCells(t, []rune{'\t', 0x301}, 6, one(" ", " \u0301"))
	checkCells(t, []rune{1, 0x301}, 0, one("^", "A\u0301"))
	checkCells(t, []rune{0x85, 0x301}, 0, one(badText+"\u0301"))
	checkCells(t, []rune{-1, 0x301}, 0, one(badText+"\u0301"))
	checkCells(t, []rune{'a', 'b', 0x200b, 'c'}, 0, one("a", "b\u200b", "c"))
}

// TestCellsFull: P1.3, a Text of 32 bytes takes one more rune, a Text of 33 none.
func TestCellsFull(t *testing.T) {
	accents := func(n int) []rune { return slices.Repeat([]rune{0x301}, n) }
	text := func(n int) string { return strings.Repeat("\u0301", n) }
	// 1 and 2 n bytes: 31 takes one, 33 does not.
	checkCells(t, append([]rune{'a'}, accents(15)...), 0, one("a"+text(15)))
	checkCells(t, append([]rune{'a'}, accents(16)...), 0, one("a"+text(16)))
	checkCells(t, append([]rune{'a'}, accents(17)...), 0, one("a"+text(16)))
	// 2 and 2 n bytes: 32 takes one, 34 does not.
	checkCells(t, append([]rune{0xe9}, accents(16)...), 0, one("\u00e9"+text(16)))
	checkCells(t, append([]rune{0xe9}, accents(17)...), 0, one("\u00e9"+text(16)))
	checkCells(t, append([]rune{0x4e2d}, accents(100)...), 0, two("\u4e2d"+text(15)))
	checkCells(t, append(accents(100), 'b', 0x302), 0, one(" "+text(16), "b\u0302"))
	// 32 bytes and a rune of three.
	checkCells(t, append([]rune{0xe9}, append(accents(15), 0x200b, 0x301)...), 0, one("\u00e9"+text(15)+"\u200b"))
}

// sampleRunes are of every kind that Cells tells apart.
var sampleRunes = []rune{'a', ' ', '\t', 1, 0x7f, 0x85, -1, 0xd800, 0x301, 0x200b, 0x4e2d, 0x1f600, 0xe9, api.Bad}

// TestCellsByWidth: P1.6, a rune behind another one accounts for as many cells as its Width.
func TestCellsByWidth(t *testing.T) {
	for r := rune(0x20); r <= 0x10ffff; r++ {
		if Control(r) || r >= 0xd800 && r <= 0xdfff {
			continue
		}
		if got := Span([]rune{'a', r}, 0); got != 1+Width(r) {
			t.Fatalf("%x of width %d occupies %d cells", r, Width(r), got-1)
		}
	}
}

// TestCellsShape: P1.6 and the definition of a cell: a cell of Width 0 stands behind a wide one and nowhere else, Attr is 0.
func TestCellsShape(t *testing.T) {
	eachSample(4, func(l []rune) {
		wide := false
		for _, c := range Cells(l, 3) {
			if wide != (c.Width == 0) || wide != (c.Text == "") || c.Width < 0 || c.Width > 2 || c.Attr != 0 {
				t.Fatalf("Cells(%x, 3) has the cell %+v", l, c)
			}
			wide = c.Width == 2
		}
		if wide {
			t.Fatalf("Cells(%x, 3) ends within a rune", l)
		}
	})
}

// TestSpanParts: P1.6, a list and its two parts, wherever it is cut.
func TestSpanParts(t *testing.T) {
	eachSample(4, func(l []rune) {
		for _, col := range []int{-3, 0, 5, 7, 8} {
			whole := Span(l, col)
			if whole != len(Cells(l, col)) {
				t.Fatalf("Span(%x, %d) = %d", l, col, whole)
			}
			for cut := range len(l) + 1 {
				if cut < len(l) && (l[cut] == 0x301 || l[cut] == 0x200b) {
					continue
				}
				first := Span(l[:cut], col)
				if first+Span(l[cut:], max(col, 0)+first) != whole {
					t.Fatalf("Span(%x, %d) is not the sum of its parts at %d", l, col, cut)
				}
			}
		}
	})
}

// eachSample calls f with every list of up to n of the sample runes.
func eachSample(n int, f func([]rune)) {
	var l []rune
	var fill func()
	fill = func() {
		f(l)
		if len(l) == n {
			return
		}
		for _, r := range sampleRunes {
			l = append(l, r)
			fill()
			l = l[:len(l)-1]
		}
	}
	fill()
}

// TestCellsKeepNothing: R3, the argument stays as it is, and an answer is not seen in the next one.
func TestCellsKeepNothing(t *testing.T) {
	l := []rune{'e', 0x301, '\t', 0x4e2d}
	first := Cells(l, 0)
	clear(first)
	if !slices.Equal(l, []rune{'e', 0x301, '\t', 0x4e2d}) {
		t.Fatal("Cells changed its argument")
	}
	checkCells(t, l, 0, slices.Concat(one("e\u0301"), blanks(7), two("\u4e2d")))
}

// TestCellsLong: THE BOUND, a cell with very many runes of width 0 does not slow the layout down.
func TestCellsLong(t *testing.T) {
	l := slices.Repeat([]rune{0x4e2d, 0x301, '\t'}, 100000)
	l = append(l, slices.Repeat([]rune{0x301}, 1000000)...)
	if got := Span(l, 0); got != 800000 {
		t.Fatal(got)
	}
}
