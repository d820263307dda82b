package ucell

import (
	"unicode/utf8"

	"lanyard/api"
)

// span states how many cells each rune from low to high occupies.
type span struct {
	low   rune
	high  rune
	cells int
}

// widths lists the runes whose width is not 1. The first span with a rune counts: those of width 0 lie partly within those of width 2.
var widths = [...]span{
	{0x300, 0x36f, 0},
	{0x483, 0x489, 0},
	{0x591, 0x5bd, 0},
	{0x610, 0x61a, 0},
	{0x64b, 0x65f, 0},
	{0xe31, 0xe31, 0},
	{0xe34, 0xe3a, 0},
	{0xe47, 0xe4e, 0},
	{0x1ab0, 0x1aff, 0},
	{0x1dc0, 0x1dff, 0},
	{0x200b, 0x200f, 0},
	{0x20d0, 0x20ff, 0},
	{0x3099, 0x309a, 0},
	{0xfe00, 0xfe0f, 0},
	{0xfe20, 0xfe2f, 0},
	{0x1100, 0x115f, 2},
	{0x2e80, 0x303e, 2},
	{0x3041, 0x33ff, 2},
	{0x3400, 0x4dbf, 2},
	{0x4e00, 0x9fff, 2},
	{0xa000, 0xa4cf, 2},
	{0xac00, 0xd7a3, 2},
	{0xf900, 0xfaff, 2},
	{0xfe30, 0xfe6f, 2},
	{0xff00, 0xff60, 2},
	{0xffe0, 0xffe6, 2},
	{0x1f300, 0x1f64f, 2},
	{0x1f900, 0x1f9ff, 2},
	{0x20000, 0x3fffd, 2},
}

// Width returns how many cells r occupies on a screen; 0 for a control and for a value that is not a valid rune.
func Width(r rune) int {
	if Control(r) || !utf8.ValidRune(r) {
		return 0
	}
	for _, s := range widths {
		if s.low <= r && r <= s.high {
			return s.cells
		}
	}
	return 1
}

// Control reports whether r is one of the controls of ASCII or of the upper half.
func Control(r rune) bool { return 0 <= r && r <= 0x1f || 0x7f <= r && r <= 0x9f }

// Letter reports whether r belongs to a word.
func Letter(r rune) bool {
	switch {
	case '0' <= r && r <= '9', 'A' <= r && r <= 'Z', 'a' <= r && r <= 'z':
		return true
	case r < 0xc0, r == 0xd7, r == 0xf7, r == api.Bad:
		return false
	case 0x2000 <= r && r <= 0x206f, 0x3000 <= r && r <= 0x303f, 0xff00 <= r && r <= 0xff0f:
		return false
	}
	return Width(r) != 0
}

// Upper returns the capital of a small letter of Latin-1, and any other rune as it is.
func Upper(r rune) rune {
	if 'a' <= r && r <= 'z' || 0xe0 <= r && r <= 0xfe && r != 0xf7 {
		return r - 0x20
	}
	return r
}

// Lower returns the small letter of a capital of Latin-1, and any other rune as it is.
func Lower(r rune) rune {
	if 'A' <= r && r <= 'Z' || 0xc0 <= r && r <= 0xde && r != 0xd7 {
		return r + 0x20
	}
	return r
}
