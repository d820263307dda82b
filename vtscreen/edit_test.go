package vtscreen

import (
	"strings"
	"testing"

	"lanyard/api"
)

// letters fill a screen of 4 rows and 5 columns; the cursor is then in row 1 (the second one), column 2.
const letters = "abcdefghijklmnopqrst\x1b[2;3H"

// TestErase: P6.5 (J, K, with and without ?).
func TestErase(t *testing.T) {
	for _, prefix := range []string{"\x1b[", "\x1b[?"} {
		for bytes, want := range map[string]string{
			"J":     "abcde|fg||@1,2",
			"0J":    "abcde|fg||@1,2",
			"1J":    "|   ij|klmno|pqrst@1,2",
			"2J":    "|||@1,2",
			"3J":    "|||@1,2",
			"4J":    "abcde|fghij|klmno|pqrst@1,2",
			";2J":   "abcde|fg||@1,2",
			"K":     "abcde|fg|klmno|pqrst@1,2",
			"0K":    "abcde|fg|klmno|pqrst@1,2",
			"1K":    "abcde|   ij|klmno|pqrst@1,2",
			"2K":    "abcde||klmno|pqrst@1,2",
			"3K":    "abcde||klmno|pqrst@1,2",
			"4K":    "abcde|fghij|klmno|pqrst@1,2",
			"1;2K":  "abcde|   ij|klmno|pqrst@1,2",
			"9999K": "abcde|fghij|klmno|pqrst@1,2",
		} {
			if got := look(after(t, 4, 5, letters+prefix+bytes)); got != want {
				t.Errorf("%q: %s, not %s", prefix+bytes, got, want)
			}
		}
	}
	checkLooks(t, 4, 5, letters, []sent{
		{"\x1b[H\x1b[J", "|||@0,0"},
		{"\x1b[H\x1b[1J", " bcde|fghij|klmno|pqrst@0,0"},
		{"\x1b[4;5H\x1b[J", "abcde|fghij|klmno|pqrs@3,4"},
		{"\x1b[4;5H\x1b[1J", "|||@3,4"},
		{"\x1b[2;1H\x1b[K", "abcde||klmno|pqrst@1,0"},
		{"\x1b[2;5H\x1b[1K", "abcde||klmno|pqrst@1,4"},
		{"\x1b[2;3r\x1b[?6h\x1b[2J", "|||@1,0"},
		{"\x1b[2;3r\x1b[?6h\x1b[J", "abcde|||@1,0"},
	})
	// The blanks have the colors of the screen.
	s := after(t, 2, 3, "abcdef\x1b[1;2H\x1b[1;4;5;7;33;42m\x1b[K")
	checkRow(t, s, 0, one(0, "a"), one(4*16+3*256, " ", " "))
	checkRow(t, s, 1, one(0, "d", "e", "f"))
	s = after(t, 2, 3, "abcdef\x1b[2;2H\x1b[7;33;42m\x1b[1J")
	checkRow(t, s, 0, one(4*16+3*256, " ", " ", " "))
	checkRow(t, s, 1, one(4*16+3*256, " ", " "), one(0, "f"))
	s = after(t, 2, 3, "abcdef\x1b[2;2H\x1b[7;33m\x1b[2J")
	checkRow(t, s, 1, one(4*16, " ", " ", " "))
}

// TestEraseWide: a half of a wide cell that is left.
func TestEraseWide(t *testing.T) {
	const before = "\x1b[31m\u4e2da\u6587\x1b[m"
	checkRow(t, after(t, 1, 5, before+"\x1b[2G\x1b[K"), 0, one(32, " "), one(0, " ", " ", " ", " "))
	checkRow(t, after(t, 1, 5, before+"\x1b[1G\x1b[1K"), 0, one(0, " "), one(32, " ", "a"), two(32, "\u6587"))
	checkRow(t, after(t, 1, 5, before+"\x1b[4G\x1b[1J"), 0, one(0, " ", " ", " ", " "), one(32, " "))
	checkRow(t, after(t, 1, 5, before+"\x1b[5G\x1b[J"), 0, two(32, "\u4e2d"), one(32, "a", " "), one(0, " "))
	checkRow(t, after(t, 1, 5, before+"\x1b[2G\x1b[3X"), 0, one(32, " "), one(0, " ", " ", " "), one(32, " "))
	checkRow(t, after(t, 1, 5, before+"\x1b[3G\x1b[X"), 0, two(32, "\u4e2d"), one(0, " "), two(32, "\u6587"))
}

// TestCharacters: P6.5 (X, @, P).
func TestCharacters(t *testing.T) {
	checkLooks(t, 4, 5, letters, []sent{
		{"\x1b[X", "abcde|fg ij|klmno|pqrst@1,2"},
		{"\x1b[0X", "abcde|fg ij|klmno|pqrst@1,2"},
		{"\x1b[2X", "abcde|fg  j|klmno|pqrst@1,2"},
		{"\x1b[3X", "abcde|fg|klmno|pqrst@1,2"},
		{"\x1b[4X", "abcde|fg|klmno|pqrst@1,2"},
		{"\x1b[65535X", "abcde|fg|klmno|pqrst@1,2"},
		{"\x1b[@", "abcde|fg hi|klmno|pqrst@1,2"},
		{"\x1b[2@", "abcde|fg  h|klmno|pqrst@1,2"},
		{"\x1b[3@", "abcde|fg|klmno|pqrst@1,2"},
		{"\x1b[65535@", "abcde|fg|klmno|pqrst@1,2"},
		{"\x1b[P", "abcde|fgij|klmno|pqrst@1,2"},
		{"\x1b[2P", "abcde|fgj|klmno|pqrst@1,2"},
		{"\x1b[3P", "abcde|fg|klmno|pqrst@1,2"},
		{"\x1b[65535P", "abcde|fg|klmno|pqrst@1,2"},
		{"\x1b[1G\x1b[2P", "abcde|hij|klmno|pqrst@1,0"},
		{"\x1b[5G\x1b[P", "abcde|fghi|klmno|pqrst@1,4"},
		{"\x1b[5G\x1b[@", "abcde|fghi|klmno|pqrst@1,4"},
		{"\x1b[1G\x1b[5@", "abcde||klmno|pqrst@1,0"},
		// With a Private they have no effect.
		{"\x1b[?X\x1b[?@\x1b[?P\x1b[>P\x1b[ @", "abcde|fghij|klmno|pqrst@1,2"},
	})
	const style = "abcde\x1b[3G\x1b[1;7;32;41m"
	const blank = 3*16 + 2*256
	checkRow(t, after(t, 1, 5, style+"\x1b[X"), 0, one(0, "a", "b"), one(blank, " "), one(0, "d", "e"))
	checkRow(t, after(t, 1, 5, style+"\x1b[@"), 0, one(0, "a", "b"), one(blank, " "), one(0, "c", "d"))
	checkRow(t, after(t, 1, 5, style+"\x1b[2P"), 0, one(0, "a", "b", "e"), one(blank, " ", " "))
}

// TestCharactersWide: what parts the halves of wide cells, and what joins halves of two.
func TestCharactersWide(t *testing.T) {
	const before = "\x1b[31m\u4e2da\u6587b\x1b[m"
	checkRow(t, after(t, 1, 6, before+"\x1b[1G\x1b[P"), 0, one(32, " ", "a"), two(32, "\u6587"), one(32, "b"), one(0, " "))
	checkRow(t, after(t, 1, 6, before+"\x1b[2G\x1b[P"), 0, one(32, " ", "a"), two(32, "\u6587"), one(32, "b"), one(0, " "))
	checkRow(t, after(t, 1, 6, before+"\x1b[1G\x1b[2P"), 0, one(32, "a"), two(32, "\u6587"), one(32, "b"), one(0, " ", " "))
	checkRow(t, after(t, 1, 6, before+"\x1b[3G\x1b[2P"), 0, two(32, "\u4e2d"), one(32, " ", "b"), one(0, " ", " "))
	checkRow(t, after(t, 1, 6, before+"\x1b[2G\x1b[@"), 0, one(32, " "), one(0, " "), one(32, " ", "a"), two(32, "\u6587"))
	checkRow(t, after(t, 1, 6, before+"\x1b[3G\x1b[2@"), 0, two(32, "\u4e2d"), one(0, " ", " "), one(32, "a", " "))
	checkRow(t, after(t, 1, 6, before+"\x1b[3G\x1b[@"), 0, two(32, "\u4e2d"), one(0, " "), one(32, "a"), two(32, "\u6587"))
	// The left half of one and the right half of another one are not alone.
	checkRow(t, after(t, 1, 6, before+"\x1b[2G\x1b[3P"), 0, two(32, "\u4e2d"), one(32, "b"), one(0, " ", " ", " "))
	s := after(t, 1, 6, "\x1b[31m\u4e2d\x1b[32m\u6587\x1b[m\x1b[2G\x1b[2P")
	checkRow(t, s, 0, []api.Cell{{Text: "\u4e2d", Width: 2, Attr: 32}, {Attr: 48}}, one(0, " ", " ", " ", " "))
}

// TestLines: P6.5 (L, M).
func TestLines(t *testing.T) {
	checkLooks(t, 4, 5, letters, []sent{
		{"\x1b[L", "abcde||fghij|klmno@1,0"},
		{"\x1b[0L", "abcde||fghij|klmno@1,0"},
		{"\x1b[2L", "abcde|||fghij@1,0"},
		{"\x1b[3L", "abcde|||@1,0"},
		{"\x1b[65535L", "abcde|||@1,0"},
		{"\x1b[M", "abcde|klmno|pqrst|@1,0"},
		{"\x1b[2M", "abcde|pqrst||@1,0"},
		{"\x1b[3M", "abcde|||@1,0"},
		{"\x1b[65535M", "abcde|||@1,0"},
		{"\x1b[H\x1b[M", "fghij|klmno|pqrst|@0,0"},
		{"\x1b[4;3H\x1b[M", "abcde|fghij|klmno|@3,0"},
		{"\x1b[4;3H\x1b[L", "abcde|fghij|klmno|@3,0"},
		{"\x1b[?L\x1b[?M\x1b[>L\x1b[ M", "abcde|fghij|klmno|pqrst@1,2"},
	})
	checkLooks(t, 4, 5, letters+"\x1b[2;3r", []sent{
		{"\x1b[2;3H\x1b[L", "abcde||fghij|pqrst@1,0"},
		{"\x1b[2;3H\x1b[M", "abcde|klmno||pqrst@1,0"},
		{"\x1b[3;3H\x1b[L", "abcde|fghij||pqrst@2,0"},
		{"\x1b[3;3H\x1b[9M", "abcde|fghij||pqrst@2,0"},
		{"\x1b[1;3H\x1b[L", "abcde|fghij|klmno|pqrst@0,2"},
		{"\x1b[4;3H\x1b[M", "abcde|fghij|klmno|pqrst@3,2"},
	})
	s := after(t, 3, 2, "ab\x1b[1;7;31m\x1b[H\x1b[L")
	checkRow(t, s, 0, one(32, " ", " "))
	checkRow(t, s, 1, one(0, "a", "b"))
	s = after(t, 2, 2, "abcd\x1b[1;7;31m\x1b[H\x1b[M")
	checkRow(t, s, 0, one(0, "c", "d"))
	checkRow(t, s, 1, one(32, " ", " "))
}

// TestScroll: P6.5 (S, T).
func TestScroll(t *testing.T) {
	checkLooks(t, 4, 5, letters, []sent{
		{"\x1b[S", "fghij|klmno|pqrst|@1,2"},
		{"\x1b[0S", "fghij|klmno|pqrst|@1,2"},
		{"\x1b[3S", "pqrst|||@1,2"},
		{"\x1b[4S", "|||@1,2"},
		{"\x1b[65535S", "|||@1,2"},
		{"\x1b[T", "|abcde|fghij|klmno@1,2"},
		{"\x1b[3T", "|||abcde@1,2"},
		{"\x1b[65535T", "|||@1,2"},
		{"\x1b[?S\x1b[?T\x1b[>T\x1b[ S", "abcde|fghij|klmno|pqrst@1,2"},
	})
	checkLooks(t, 4, 5, letters+"\x1b[2;3r", []sent{
		{"\x1b[S", "abcde|klmno||pqrst@0,0"},
		{"\x1b[T", "abcde||fghij|pqrst@0,0"},
		{"\x1b[9S", "abcde|||pqrst@0,0"},
		{"\x1b[4;2H\x1b[9T", "abcde|||pqrst@3,1"},
	})
	s := after(t, 3, 2, "abcdef\x1b[4;5;36;47m\x1b[2S")
	checkRow(t, s, 0, one(0, "e", "f"))
	checkRow(t, s, 2, one(7*16+8*256, " ", " "))
	s = after(t, 3, 2, "abcdef\x1b[4;5;36;47m\x1b[2T")
	checkRow(t, s, 1, one(7*16+8*256, " ", " "))
	checkRow(t, s, 2, one(0, "a", "b"))
	// Rows that were scrolled share nothing.
	checkLooks(t, 3, 2, "abcdef\x1b[2T\x1b[S\x1b[T", []sent{{"\x1b[1;1Hxy\x1b[2;1Hz", "xy|z|ab@1,1"}})
}

// TestEditPending: P6.5, after each of J, K, X, @, P, L and M the cursor is not pending, also where they have no other effect.
func TestEditPending(t *testing.T) {
	checkLooks(t, 3, 2, "\x1b[2;3r\x1b[1;1Hab", []sent{
		{"", "ab||@0,1+"},
		{"\x1b[J", "a||@0,1"},
		{"\x1b[4J", "ab||@0,1"},
		{"\x1b[?4J", "ab||@0,1"},
		{"\x1b[K", "a||@0,1"},
		{"\x1b[9K", "ab||@0,1"},
		{"\x1b[?9K", "ab||@0,1"},
		{"\x1b[X", "a||@0,1"},
		{"\x1b[@", "a||@0,1"},
		{"\x1b[P", "a||@0,1"},
		{"\x1b[L", "ab||@0,1"},
		{"\x1b[M", "ab||@0,1"},
		{"\x1b[S", "ab||@0,1+"},
		{"\x1b[T", "ab||@0,1+"},
		{"\x1b[m", "ab||@0,1+"},
		{"\x1b[>J", "ab||@0,1+"},
		{"\x1b[ K", "ab||@0,1+"},
		{"\x1b[?X", "ab||@0,1+"},
	})
	checkLooks(t, 2, 2, "abcd", []sent{{"\x1b[S", "cd|@1,1+"}, {"\x1b[T", "|ab@1,1+"}, {"\x1b[L", "ab|@1,0"}, {"\x1b[M", "ab|@1,0"}})
}

// TestOtherSequences: P6.5, sequences without an effect.
func TestOtherSequences(t *testing.T) {
	const before = "x\x1b[2;3r\x1b[2;1Habcd"
	for final := range 256 {
		for _, private := range []byte{0, '?', '>', '<', '=', 'x'} {
			for _, inter := range []string{"", "!", " ", "#", "!!"} {
				a := api.Action{Kind: api.ActCsi, Private: private, Inter: inter, Final: byte(final), Params: []int{4, 6, 7, 25, 2004, 1}}
				if works(a) {
					continue
				}
				s := after(t, 3, 4, before)
				s.Do(a)
				if !Same(s, after(t, 3, 4, before)) || s.saved != (saved{}) || s.last != 'd' {
					t.Errorf("%v: %s", a, look(s))
				}
			}
		}
	}
}

// works reports whether such a sequence has an effect.
func works(a api.Action) bool {
	switch {
	case a.Inter == "!":
		return a.Final == 'p'
	case a.Inter == "" && a.Private == 0:
		return strings.IndexByte("ABCDEFGHIJKLMPSTXZ@`bdfghlmrsu", a.Final) >= 0
	case a.Inter == "" && a.Private == '?':
		return strings.IndexByte("hlJK", a.Final) >= 0
	}
	return false
}
