package vtscreen

import (
	"math"
	"strconv"
	"testing"

	"lanyard/api"
)

// TestStyle: P6.7.
func TestStyle(t *testing.T) {
	for bytes, want := range map[string]int{
		"\x1b[m":                          0,
		"\x1b[1m":                         api.AttrBold,
		"\x1b[4m":                         api.AttrUnder,
		"\x1b[5m":                         api.AttrBlink,
		"\x1b[7m":                         api.AttrReverse,
		"\x1b[1;4;5;7m":                   15,
		"\x1b[1;4;5;7;22m":                14,
		"\x1b[1;4;5;7;24m":                13,
		"\x1b[1;4;5;7;25m":                11,
		"\x1b[1;4;5;7;27m":                7,
		"\x1b[22;24;25;27m":               0,
		"\x1b[1;1m":                       1,
		"\x1b[1m\x1b[4m":                  3,
		"\x1b[1;31;42m\x1b[m":             0,
		"\x1b[1;31;42m\x1b[0m":            0,
		"\x1b[1;31;42;0m":                 0,
		"\x1b[1;31;42;;4m":                2,
		"\x1b[1;m":                        0,
		"\x1b[;1m":                        1,
		"\x1b[31;32m":                     3 * api.AttrFore,
		"\x1b[37;30m":                     api.AttrFore,
		"\x1b[47;40m":                     api.AttrBack,
		"\x1b[1;31;42;39m":                1 + 3*api.AttrBack,
		"\x1b[1;31;42;49m":                1 + 2*api.AttrFore,
		"\x1b[91m":                        2 * api.AttrFore,
		"\x1b[31;97m":                     8 * api.AttrFore,
		"\x1b[107m":                       8 * api.AttrBack,
		"\x1b[1;38m":                      1,
		"\x1b[38;1m":                      1,
		"\x1b[38;5m":                      0,
		"\x1b[38;5;1m":                    0,
		"\x1b[38;5;1;1m":                  1,
		"\x1b[38;5;31;41;4m":              2*api.AttrBack + 2,
		"\x1b[48;5;31;41;4m":              2*api.AttrBack + 2,
		"\x1b[38;2;1;4;5;7m":              api.AttrReverse,
		"\x1b[48;2;1;4;5;7m":              api.AttrReverse,
		"\x1b[38;2;1;4;5m":                0,
		"\x1b[38;2;1m":                    0,
		"\x1b[38;2m":                      0,
		"\x1b[38;;1m":                     1,
		"\x1b[38;38;5;1m":                 0,
		"\x1b[38;48;5;1m":                 0,
		"\x1b[38;3;1m":                    1,
		"\x1b[38;4;1m":                    3,
		"\x1b[31;38;5;7m":                 2 * api.AttrFore,
		"\x1b[2;3;6;8;9;21;23;26;28;29m":  0,
		"\x1b[10;50;89;98;99;108;65535m":  0,
		"\x1b[?1m\x1b[>1m\x1b[1 m\x1b[1p": 0,
	} {
		if got := after(t, 1, 9, bytes).Attr(); got != want {
			t.Errorf("%q: Attr %d, not %d", bytes, got, want)
		}
	}
}

// TestStyleEvery: P6.7, every number, from no attributes and from all.
func TestStyleEvery(t *testing.T) {
	const all = "\x1b[1;4;5;7;36;46m"
	for q := range 130 {
		clear, set := 0, 0
		switch {
		case q == 0:
			clear = 0xfff
		case q == 1, q == 4, q == 5, q == 7:
			set = map[int]int{1: 1, 4: 2, 5: 4, 7: 8}[q]
		case q == 22, q == 24, q == 25, q == 27:
			clear = map[int]int{22: 1, 24: 2, 25: 4, 27: 8}[q]
		case q >= 30 && q <= 37:
			clear, set = 0xf0, 16*(q-29)
		case q == 39:
			clear = 0xf0
		case q >= 40 && q <= 47:
			clear, set = 0xf00, 256*(q-39)
		case q == 49:
			clear = 0xf00
		case q >= 90 && q <= 97:
			clear, set = 0xf0, 16*(q-89)
		case q >= 100 && q <= 107:
			clear, set = 0xf00, 256*(q-99)
		}
		bytes := "\x1b[" + strconv.Itoa(q) + "m"
		if got := after(t, 1, 2, bytes).Attr(); got != set {
			t.Errorf("%q: Attr %d, not %d", bytes, got, set)
		}
		if got, want := after(t, 1, 2, all+bytes).Attr(), (15+7*16+7*256)&^clear|set; got != want {
			t.Errorf("%q behind all: Attr %d, not %d", bytes, got, want)
		}
	}
}

// TestStyleOdd: P6.7 and R1, lists that no bytes come to.
func TestStyleOdd(t *testing.T) {
	do := func(params ...int) int {
		s := after(t, 1, 2, "\x1b[1m")
		s.Do(api.Action{Kind: api.ActCsi, Final: 'm', Params: params})
		return s.Attr()
	}
	for _, n := range []int{math.MinInt, -2, -31, 65537, math.MaxInt} {
		if got := do(n, 4, n); got != 3 {
			t.Errorf("%d: Attr %d", n, got)
		}
		if got := do(38, n, 4); got != 3 {
			t.Errorf("38 and %d: Attr %d", n, got)
		}
	}
	if do() != 0 || do(-1) != 0 || do(4, -1, 7) != 8 {
		t.Error("a parameter that is left away is not 0")
	}
	long := make([]int, 1<<18)
	for i := range long {
		long[i] = 30 + i%8
	}
	if got := do(long...); got != 1+8*16 {
		t.Errorf("Attr %d", got)
	}
}
