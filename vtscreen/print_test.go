package vtscreen

import (
	"strings"
	"testing"

	"lanyard/api"
	"lanyard/ucell"
)

// TestPrintPlain: P6.2, runes of width 1, the end of a row, and the end of the screen.
func TestPrintPlain(t *testing.T) {
	checkLooks(t, 2, 4, "", []sent{
		{"", "|@0,0"},
		{"a", "a|@0,1"},
		{"abc", "abc|@0,3"},
		{"abcd", "abcd|@0,3+"},
		{"abcde", "abcd|e@1,1"},
		{"abcdefgh", "abcd|efgh@1,3+"},
		{"abcdefghi", "efgh|i@1,1"},
		{"abcd\x1b[1;2Hx", "axcd|@0,2"},
		{"\u00e9\ufffd", "\u00e9\ufffd|@0,2"},
		{"\xff", "\ufffd|@0,1"},
	})
	checkLooks(t, 1, 2, "", []sent{{"ab", "ab@0,1+"}, {"abc", "c@0,1"}, {"abcd", "cd@0,1+"}})
}

// TestPrintNoWrap: P6.2, at the end of a row without ScreenWrap.
func TestPrintNoWrap(t *testing.T) {
	checkLooks(t, 2, 4, "\x1b[?7l", []sent{
		{"abcd", "abcd|@0,3+"},
		{"abcde", "abce|@0,3+"},
		{"abcdef", "abcf|@0,3+"},
		{"abcd\u4e2d", "abcd|@0,3+"},
		{"abc\u4e2d", "abc|@0,3"},
		{"abc\u4e2dx", "abcx|@0,3+"},
		{"ab\u4e2d", "ab\u4e2d|@0,3+"},
		{"ab\u4e2dx", "ab x|@0,3+"},
		// What is pending still is when ScreenWrap is set again.
		{"abcd\x1b[?7he", "abcd|e@1,1"},
	})
	// Clearing ScreenWrap makes the cursor not pending.
	checkLooks(t, 2, 4, "abcd", []sent{
		{"\x1b[?7l", "abcd|@0,3"},
		{"\x1b[?7l\x1b[?7he", "abce|@0,3+"},
		{"\x1b[?7h", "abcd|@0,3+"},
		{"\x1b[?25l", "abcd|@0,3+"},
	})
}

// TestPrintWide: P6.2, runes of width 2.
func TestPrintWide(t *testing.T) {
	checkLooks(t, 2, 4, "", []sent{
		{"\u4e2d", "\u4e2d|@0,2"},
		{"a\u4e2d", "a\u4e2d|@0,3"},
		{"ab\u4e2d", "ab\u4e2d|@0,3+"},
		{"ab\u4e2dc", "ab\u4e2d|c@1,1"},
		{"abc\u4e2d", "abc|\u4e2d@1,2"},
		{"abcd\u4e2d", "abcd|\u4e2d@1,2"},
		{"abcdefg\u4e2d", "efg|\u4e2d@1,2"},
		{"\u4e2d\u6587\U0001f600", "\u4e2d\u6587|\U0001f600@1,2"},
	})
	checkLooks(t, 1, 2, "", []sent{{"\u4e2d", "\u4e2d@0,1+"}, {"a\u4e2d", "\u4e2d@0,1+"}, {"\u4e2da", "a@0,1"}})
	s := after(t, 2, 4, "\x1b[7;31mab\u4e2d\x1b[H\x1b[2C\x1b[32m")
	checkRow(t, s, 0, one(8+32, "a", "b"), two(8+32, "\u4e2d"))
	// The blank in the last column has the colors of the screen, not what was there.
	s = after(t, 2, 4, "abcd\x1b[1;4H\x1b[1;31m\u4e2d")
	checkRow(t, s, 0, one(0, "a", "b", "c"), one(32, " "))
	checkRow(t, s, 1, two(1+32, "\u4e2d"), one(0, " ", " "))
}

// TestPrintOverWide: a half that remains becomes a blank with its own Attr.
func TestPrintOverWide(t *testing.T) {
	const before = "\x1b[31;1ma\u4e2db\x1b[m"
	checkRow(t, after(t, 1, 6, before+"\x1b[2Gx"), 0, one(33, "a"), one(0, "x"), one(33, " ", "b"), one(0, " ", " "))
	checkRow(t, after(t, 1, 6, before+"\x1b[3Gx"), 0, one(33, "a", " "), one(0, "x"), one(33, "b"), one(0, " ", " "))
	checkRow(t, after(t, 1, 6, before+"\x1b[1G\u6587"), 0, two(0, "\u6587"), one(33, " ", "b"), one(0, " ", " "))
	checkRow(t, after(t, 1, 6, before+"\x1b[3G\u6587"), 0, one(33, "a", " "), two(0, "\u6587"), one(0, " ", " "))
	checkRow(t, after(t, 1, 6, before+"\x1b[2G\u6587"), 0, one(33, "a"), two(0, "\u6587"), one(33, "b"), one(0, " ", " "))
	checkRow(t, after(t, 1, 6, "\x1b[31m\u4e2d\u6587\x1b[m\x1b[2G\uac00"), 0, one(32, " "), two(0, "\uac00"), one(32, " "), one(0, " ", " "))
	// A blank in the last column parts a wide cell, too.
	checkRow(t, after(t, 2, 4, "\x1b[31mab\u4e2d\x1b[m\x1b[1;4H\u6587"), 0, one(32, "a", "b", " "), one(0, " "))
}

// TestPrintInsert: P6.2, with ScreenInsert.
func TestPrintInsert(t *testing.T) {
	checkLooks(t, 2, 5, "abcde\x1b[4h", []sent{
		{"\x1b[1;1Hx", "xabcd|@0,1"},
		{"\x1b[1;3Hxy", "abxyc|@0,4"},
		{"\x1b[1;5Hx", "abcdx|@0,4+"},
		{"\x1b[1;5Hxy", "abcdx|y@1,1"},
		{"\x1b[1;1H\u4e2d", "\u4e2dabc|@0,2"},
		{"\x1b[1;4H\u4e2d", "abc\u4e2d|@0,4+"},
		{"\x1b[1;5H\u4e2d", "abcd|\u4e2d@1,2"},
		{"x", "abcde|x@1,1"},
		{"\x1b[4l\x1b[1;1Hx", "xbcde|@0,1"},
		{"\x1b[1;1H\u0301", "abcde|@0,0"},
	})
	checkLooks(t, 2, 5, "\u4e2da\u6587\x1b[4h", []sent{
		{"\x1b[1;1Hx", "x\u4e2da|@0,1"},
		{"\x1b[1;2Hx", " x a|@0,2"},
		{"\x1b[1;3Hxy", "\u4e2dxya|@0,4"},
		{"\x1b[1;3H\uac00", "\u4e2d\uac00a|@0,4"},
		{"\x1b[1;5Hx", "\u4e2da x|@0,4+"},
		{"\x1b[1;5H\uac00", "\u4e2da|\uac00@1,2"},
	})
	// The halves that are parted keep their Attr.
	checkRow(t, after(t, 1, 5, "\x1b[31m\u4e2da\u6587\x1b[m\x1b[4h\x1b[2Gx"), 0, one(32, " "), one(0, "x"), one(32, " ", "a", " "))
	// Without ScreenWrap, what is pending is replaced.
	checkLooks(t, 2, 5, "\x1b[?7l\x1b[4habcde", []sent{{"x", "abcdx|@0,4+"}, {"\u4e2d", "abcde|@0,4+"}})
}

// TestPrintCombining: P6.2, to which cell a rune of width 0 is appended.
func TestPrintCombining(t *testing.T) {
	checkLooks(t, 2, 4, "", []sent{
		{"\u0301", "|@0,0"},
		{"a\u0301", "a\u0301|@0,1"},
		{"a\u0301\u0302b", "a\u0301\u0302b|@0,2"},
		{"abcd\u0301", "abcd\u0301|@0,3+"},
		{"abcd\u0301e", "abcd\u0301|e@1,1"},
		{"abcd\x1b[1;4H\u0301", "abc\u0301d|@0,3"},
		{"\u4e2d\u0301", "\u4e2d\u0301|@0,2"},
		{"\u4e2d\x1b[1;2H\u0301", "\u4e2d\u0301|@0,1"},
		{"ab\u4e2d\u0301", "ab\u4e2d\u0301|@0,3+"},
		{"ab\u4e2d\x1b[1;4H\u0301", "ab\u4e2d\u0301|@0,3"},
		{"ab\u4e2d\x1b[1;3H\u0301", "ab\u0301\u4e2d|@0,2"},
		{"abcd\r\n\u0301", "abcd|@1,0"},
		{"a \u0301", "a \u0301|@0,2"},
		{"\x1b[1;3H\u0301", "  \u0301|@0,2"},
		{"a\x1b[31m\u200b", "a\u200b|@0,1"},
		// Without ScreenWrap the cursor is pending all the same.
		{"\x1b[?7labcd\u0301", "abcd\u0301|@0,3+"},
	})
	// The Attr is that of the cell.
	checkRow(t, after(t, 1, 2, "\x1b[31ma\x1b[1;32m\u0301"), 0, one(32, "a\u0301"), one(0, " "))
	// With ScreenInsert nothing moves.
	checkLooks(t, 1, 4, "ab\x1b[4h\x1b[2G", []sent{{"\u0301", "a\u0301b@0,1"}})
}

// TestPrintLongCells: P6.2, a Text with 32 bytes takes another rune, one with 33 does not.
func TestPrintLongCells(t *testing.T) {
	accents := func(n int) string { return strings.Repeat("\u0301", n) }
	for _, c := range []struct{ sent, want string }{
		{"a" + accents(15), "a" + accents(15)},                                   // 31 bytes
		{"a" + accents(16), "a" + accents(16)},                                   // 33 bytes
		{"a" + accents(17), "a" + accents(16)},                                   // no more
		{"\u00e9" + accents(16), "\u00e9" + accents(16)},                         // 34 bytes
		{"\u00e9" + accents(15) + "\u200b", "\u00e9" + accents(15) + "\u200b"},   // 32 and 3 bytes
		{"\u00e9" + accents(16) + "\u200b", "\u00e9" + accents(16)},              // no more
		{"\u4e2d" + accents(40), "\u4e2d" + accents(15)},                         // 33 bytes
		{"\U0001f600" + accents(40) + "b", "\U0001f600" + accents(15) + "b"},     // 34 bytes
		{"a" + accents(14) + "\u200b\u0302", "a" + accents(14) + "\u200b\u0302"}, // 32 and 2 bytes
	} {
		if got := after(t, 1, 9, c.sent).Text(0); got != c.want {
			t.Errorf("%q: %q, not %q", c.sent, got, c.want)
		}
	}
}

// TestPrintOdd: P6.2, runes that no bytes come to.
func TestPrintOdd(t *testing.T) {
	printed := func(l ...rune) *Screen {
		s := must(t, 1, 6)
		for _, r := range l {
			s.Do(api.Action{Kind: api.ActPrint, Rune: r})
		}
		return s
	}
	for _, r := range []rune{0, 7, 8, 9, 10, 13, 0x1f, 0x7f, 0x80, 0x9b, 0x9f} {
		if s := printed('a', r, 'b'); look(s) != "ab@0,2" || s.Bells() != 0 {
			t.Errorf("%x: %s", r, look(s))
		}
	}
	// Values that are not valid runes have the width 0 and are no controls: they are appended as Bad.
	for _, r := range []rune{-1, 0xd800, 0xdfff, 0x110000, 1<<31 - 1, -1 << 31} {
		if s := printed('a', r, 'b'); look(s) != "a\ufffdb@0,2" {
			t.Errorf("%x: %s", r, look(s))
		}
		if s := printed(r, 'b'); look(s) != "b@0,1" {
			t.Errorf("%x: %s", r, look(s))
		}
	}
}

// TestPrintWidths: P6.2, the widths are those of layer 1.
func TestPrintWidths(t *testing.T) {
	for r := rune(0xa0); r < 0x30000; r += 37 {
		s := must(t, 1, 4)
		s.Do(api.Action{Kind: api.ActPrint, Rune: 'a'}, api.Action{Kind: api.ActPrint, Rune: r})
		at, _ := s.Cursor()
		if at.Col != 1+ucell.Width(r) {
			t.Fatalf("%x: column %d", r, at.Col)
		}
	}
}

// TestPrintAttr: P6.2, each rune has the Attr that is the current one.
func TestPrintAttr(t *testing.T) {
	s := after(t, 1, 6, "a\x1b[1mb\x1b[4;32mc\x1b[m\x1b[47md")
	checkRow(t, s, 0, one(0, "a"), one(1, "b"), one(1+2+48, "c"), one(8*256, "d"), one(0, " ", " "))
}

// TestPrintMargins: P6.2, what wraps at the end of the margins scrolls them, and below them nothing.
func TestPrintMargins(t *testing.T) {
	const before = "ab\r\ncd\r\nef\r\ngh\x1b[2;3r"
	checkLooks(t, 4, 2, before, []sent{
		{"\x1b[3;1Hxyz", "ab|xy|z|gh@2,1"},
		{"\x1b[4;1Hxyz", "ab|cd|ef|zy@3,1"},
		{"\x1b[1;1Hxyz", "xy|zd|ef|gh@1,1"},
		{"\x1b[3;2H\u4e2d", "ab|e|\u4e2d|gh@2,1+"},
	})
	// The rows that come have the colors of the screen.
	s := after(t, 2, 2, "ab\r\ncd\x1b[1;7;44mx")
	checkRow(t, s, 0, one(0, "c", "d"))
	checkRow(t, s, 1, one(1+8+5*256, "x"), one(5*256, " "))
}

// TestRepeat: P6.5 (b).
func TestRepeat(t *testing.T) {
	checkLooks(t, 2, 6, "", []sent{
		{"\x1b[b", "|@0,0"},
		{"\x1b[5b", "|@0,0"},
		{"a\x1b[b", "aa|@0,2"},
		{"a\x1b[0b", "aa|@0,2"},
		{"a\x1b[3b", "aaaa|@0,4"},
		{"a\x1b[5b", "aaaaaa|@0,5+"},
		{"a\x1b[6b", "aaaaaa|a@1,1"},
		{"\u4e2d\x1b[2b", "\u4e2d\u4e2d\u4e2d|@0,5+"},
		{"\u4e2d\x1b[3b", "\u4e2d\u4e2d\u4e2d|\u4e2d@1,2"},
		{"a\u0301\x1b[b", "a\u0301a|@0,2"},
		{"ab\r\x1b[2b", "bb|@0,2"},
		{"ab\r\n\x1b[2b", "ab|bb@1,2"},
		{"a\x1b[2J\x1b[b", " a|@0,2"},
		{"a\x1b[!p\x1b[b", "aa|@0,2"},
		{"a\x1b7\x1b8\x1b[b", "aa|@0,2"},
		{"a\x1b#8\x1b[b", "aEEEEE|EEEEEE@0,1"},
		{"a\x1bc\x1b[b", "|@0,0"},
		{"a\x1bcb\x1b[b", "bb|@0,2"},
		{"ab\x1b[4h\r\x1b[2b", "bbab|@0,2"},
		// What found no room was not printed.
		{"a\x1b[?7l\x1b[6G\u4e2d\x1b[G\x1b[b", "a|@0,1"},
	})
	// The Attr is the current one.
	checkRow(t, after(t, 1, 3, "\x1b[1ma\x1b[31m\x1b[b"), 0, one(1, "a"), one(1+32, "a"), one(0, " "))
	for sent, want := range map[string]int{"\x1b[255b": 256, "\x1b[256b": 257, "\x1b[257b": 257, "\x1b[65535b": 257} {
		s := after(t, 60, 200, "a"+sent)
		if got := len(s.Text(0)) + len(s.Text(1)); got != want {
			t.Errorf("%q: %d runes", sent, got)
		}
	}
	// A clone and a screen of another size still know the rune.
	s := after(t, 2, 6, "a").Clone()
	s.Resize(3, 7)
	s.Put([]byte("\x1b[b")...)
	if look(s) != "aa||@0,2" {
		t.Error(look(s))
	}
}
