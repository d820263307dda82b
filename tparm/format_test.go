package tparm

import (
	"math"
	"strconv"
	"strings"
	"testing"
)

// printed has what C's printf writes for 0, 26 and -26 with each format.
const printed = `
%:7d|      0|     26|    -26|
%:-7d|0      |26     |-26    |
%:07d|0000000|0000026|-000026|
%:-07d|0      |26     |-26    |
%:+7d|     +0|    +26|    -26|
%:-+7d|+0     |+26    |-26    |
%:0+7d|+000000|+000026|-000026|
%:-0+7d|+0     |+26    |-26    |
%: 7d|      0|     26|    -26|
%:- 7d| 0     | 26    |-26    |
%:0 7d| 000000| 000026|-000026|
%:-0 7d| 0     | 26    |-26    |
%:+ 7d|     +0|    +26|    -26|
%:-+ 7d|+0     |+26    |-26    |
%:0+ 7d|+000000|+000026|-000026|
%:-0+ 7d|+0     |+26    |-26    |
%:7.0d|       |     26|    -26|
%:-7.0d|       |26     |-26    |
%:07.0d|       |     26|    -26|
%:-07.0d|       |26     |-26    |
%:+7.0d|      +|    +26|    -26|
%:-+7.0d|+      |+26    |-26    |
%:0+7.0d|      +|    +26|    -26|
%:-0+7.0d|+      |+26    |-26    |
%: 7.0d|       |     26|    -26|
%:- 7.0d|       | 26    |-26    |
%:0 7.0d|       |     26|    -26|
%:-0 7.0d|       | 26    |-26    |
%:+ 7.0d|      +|    +26|    -26|
%:-+ 7.0d|+      |+26    |-26    |
%:0+ 7.0d|      +|    +26|    -26|
%:-0+ 7.0d|+      |+26    |-26    |
%:7.4d|   0000|   0026|  -0026|
%:-7.4d|0000   |0026   |-0026  |
%:07.4d|   0000|   0026|  -0026|
%:-07.4d|0000   |0026   |-0026  |
%:+7.4d|  +0000|  +0026|  -0026|
%:-+7.4d|+0000  |+0026  |-0026  |
%:0+7.4d|  +0000|  +0026|  -0026|
%:-0+7.4d|+0000  |+0026  |-0026  |
%: 7.4d|   0000|   0026|  -0026|
%:- 7.4d| 0000  | 0026  |-0026  |
%:0 7.4d|   0000|   0026|  -0026|
%:-0 7.4d| 0000  | 0026  |-0026  |
%:+ 7.4d|  +0000|  +0026|  -0026|
%:-+ 7.4d|+0000  |+0026  |-0026  |
%:0+ 7.4d|  +0000|  +0026|  -0026|
%:-0+ 7.4d|+0000  |+0026  |-0026  |
%:7o|      0|     32|37777777746|
%:-7o|0      |32     |37777777746|
%:07o|0000000|0000032|37777777746|
%:-07o|0      |32     |37777777746|
%:#7o|      0|    032|037777777746|
%:-#7o|0      |032    |037777777746|
%:0#7o|0000000|0000032|037777777746|
%:-0#7o|0      |032    |037777777746|
%:7.0o|       |     32|37777777746|
%:-7.0o|       |32     |37777777746|
%:07.0o|       |     32|37777777746|
%:-07.0o|       |32     |37777777746|
%:#7.0o|      0|    032|037777777746|
%:-#7.0o|0      |032    |037777777746|
%:0#7.0o|      0|    032|037777777746|
%:-0#7.0o|0      |032    |037777777746|
%:7.4o|   0000|   0032|37777777746|
%:-7.4o|0000   |0032   |37777777746|
%:07.4o|   0000|   0032|37777777746|
%:-07.4o|0000   |0032   |37777777746|
%:#7.4o|   0000|   0032|037777777746|
%:-#7.4o|0000   |0032   |037777777746|
%:0#7.4o|   0000|   0032|037777777746|
%:-0#7.4o|0000   |0032   |037777777746|
%:7x|      0|     1a|ffffffe6|
%:-7x|0      |1a     |ffffffe6|
%:07x|0000000|000001a|ffffffe6|
%:-07x|0      |1a     |ffffffe6|
%:#7x|      0|   0x1a|0xffffffe6|
%:-#7x|0      |0x1a   |0xffffffe6|
%:0#7x|0000000|0x0001a|0xffffffe6|
%:-0#7x|0      |0x1a   |0xffffffe6|
%:7.0x|       |     1a|ffffffe6|
%:-7.0x|       |1a     |ffffffe6|
%:07.0x|       |     1a|ffffffe6|
%:-07.0x|       |1a     |ffffffe6|
%:#7.0x|       |   0x1a|0xffffffe6|
%:-#7.0x|       |0x1a   |0xffffffe6|
%:0#7.0x|       |   0x1a|0xffffffe6|
%:-0#7.0x|       |0x1a   |0xffffffe6|
%:7.4x|   0000|   001a|ffffffe6|
%:-7.4x|0000   |001a   |ffffffe6|
%:07.4x|   0000|   001a|ffffffe6|
%:-07.4x|0000   |001a   |ffffffe6|
%:#7.4x|   0000| 0x001a|0xffffffe6|
%:-#7.4x|0000   |0x001a |0xffffffe6|
%:0#7.4x|   0000| 0x001a|0xffffffe6|
%:-0#7.4x|0000   |0x001a |0xffffffe6|
`

// TestPrinted: P4.3, every combination of the flags that count for a verb, with a width, and with and without a precision.
func TestPrinted(t *testing.T) {
	rows := strings.Split(strings.TrimSpace(printed), "\n")
	if len(rows) != 96 {
		t.Fatal("rows:", len(rows))
	}
	for _, row := range rows {
		parts := strings.Split(row, "|")
		for i, n := range []int{0, 26, -26} {
			want := parts[1+i]
			wantRun(t, want, "%p1"+parts[0], Num(n))
			if strings.HasSuffix(parts[0], "x") {
				wantRun(t, strings.ToUpper(want), "%p1"+strings.TrimSuffix(parts[0], "x")+"X", Num(n))
			}
		}
	}
}

// TestNumbers: P4.3, numbers at the ends, and formats with little in them.
func TestNumbers(t *testing.T) {
	for _, c := range []struct {
		s    string
		n    int
		want string
	}{
		{"%d", math.MaxInt32, "2147483647"}, {"%d", math.MinInt32, "-2147483648"}, {"%.12d", math.MinInt32, "-002147483648"}, {"%013d", math.MinInt32, "-002147483648"},
		{"%o", math.MinInt32, "20000000000"}, {"%x", math.MinInt32, "80000000"}, {"%X", -1, "FFFFFFFF"}, {"%o", -1, "37777777777"}, {"%x", math.MaxInt32, "7fffffff"},
		{"%#x", 255, "0xff"}, {"%#X", 255, "0XFF"}, {"%#x", 0, "0"}, {"%#X", 0, "0"}, {"%#o", 0, "0"}, {"%#o", 8, "010"}, {"%#d", 8, "8"},
		{"%#.0o", 0, "0"}, {"%#.0x", 0, ""}, {"%.0d", 0, ""}, {"%.d", 0, ""}, {"%.0x", 0, ""}, {"%.0o", 0, ""}, {"%.0d", 5, "5"}, {"%:+.0d", 0, "+"}, {"% .0d", 0, " "}, {"%3.0d", 0, "   "},
		{"%#.3o", 8, "010"}, {"%#.2o", 8, "010"}, {"%#.4o", 8, "0010"}, {"%#.4x", 10, "0x000a"}, {"%#06x", 10, "0x000a"}, {"%#06X", 171, "0X00AB"}, {"%#06o", 8, "000010"},
		{"%:+ d", 5, "+5"}, {"%: +d", 5, "+5"}, {"% d", 5, " 5"}, {"% d", -5, "-5"}, {"%:+d", -5, "-5"}, {"%:+d", 0, "+0"},
		{"%:+x", 5, "5"}, {"% x", 5, "5"}, {"%:+o", 5, "5"}, {"% X", 10, "A"}, {"%1d", 123, "123"}, {"%.1d", 123, "123"}, {"%.1x", 0x123, "123"},
		{"%:-5d", 3, "3    "}, {"%:-05d", 3, "3    "}, {"%:0-5d", 3, "3    "}, {"%:----5d", 3, "3    "}, {"%00005d", 3, "00003"}, {"%05.d", 3, "    3"}, {"%05.3d", 3, "  003"}, {"% 05d", 3, " 0003"},
	} {
		wantRun(t, c.want, "%p1"+c.s, Num(c.n))
	}
}

// TestStrings: P4.3, s, with flags that count and flags that do not.
func TestStrings(t *testing.T) {
	for _, c := range []struct{ s, text, want string }{
		{"%s", "", ""}, {"%s", "abc", "abc"}, {"%s", "\x00%d\xff", "\x00%d\xff"}, {"%2s", "abc", "abc"}, {"%5s", "abc", "  abc"}, {"%:-5s", "abc", "abc  "}, {"%5s", "", "     "},
		{"%.2s", "abc", "ab"}, {"%.3s", "abc", "abc"}, {"%.4s", "abc", "abc"}, {"%.0s", "abc", ""}, {"%.s", "abc", ""}, {"%.1s", "\xc3\xa9", "\xc3"}, {"%5.2s", "abc", "   ab"}, {"%:-5.2s", "abc", "ab   "}, {"%3.0s", "abc", "   "},
		{"%05s", "abc", "  abc"}, {"%:-05s", "abc", "abc  "}, {"%:+s", "abc", "abc"}, {"%: s", "abc", "abc"}, {"%#s", "abc", "abc"}, {"%:+ #05.1s", "abc", "    a"},
	} {
		wantRun(t, c.want, "%p1"+c.s, Text(c.text))
	}
}

// TestOtherKind: that a string counts as 0 for d, o, x and X, and a number as the empty string for s.
func TestOtherKind(t *testing.T) {
	wantRun(t, "0|000|0|  0|0", "%p1%d|%p1%.3d|%p1%o|%p1%3x|%p1%X", Text("123"))
	wantRun(t, "|   |   |", "%p1%s|%p1%3s|%p1%:-3s|%p1%.2s", Num(123))
	wantRun(t, "0|00|", "%d|%02x|%s")
}

// TestWide: P4.3, the greatest width and precision.
func TestWide(t *testing.T) {
	for _, width := range []int{999, 1000} {
		n := strconv.Itoa(width)
		for _, s := range []string{"7", "abc", strings.Repeat("x", 999), strings.Repeat("x", 1000), strings.Repeat("x", 1001)} {
			blanks := strings.Repeat(" ", max(width-len(s), 0))
			wantRun(t, blanks+s, "%p1%"+n+"s", Text(s))
			wantRun(t, s+blanks, "%p1%:-"+n+"s", Text(s))
			wantRun(t, s[:min(len(s), width)], "%p1%."+n+"s", Text(s))
		}
		zeros := strings.Repeat("0", width-1)
		wantRun(t, zeros+"7", "%p1%0"+n+"d", Num(7))
		wantRun(t, zeros+"7", "%p1%."+n+"d", Num(7))
		wantRun(t, "-"+zeros+"7", "%p1%."+n+"d", Num(-7))
		wantRun(t, "-"+zeros[1:]+"7", "%p1%0"+n+"d", Num(-7))
		wantRun(t, "0x"+zeros+"7", "%p1%#"+n+"."+n+"x", Num(7))
	}
}
