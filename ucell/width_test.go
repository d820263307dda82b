package ucell

import (
	"testing"

	"lanyard/api"
)

// noWidth and twoWide are the chapter's lists, each as pairs of a first and a last rune.
var noWidth = []rune{
	0x300, 0x36f, 0x483, 0x489, 0x591, 0x5bd, 0x610, 0x61a, 0x64b, 0x65f,
	0xe31, 0xe31, 0xe34, 0xe3a, 0xe47, 0xe4e, 0x1ab0, 0x1aff, 0x1dc0, 0x1dff,
	0x200b, 0x200f, 0x20d0, 0x20ff, 0x3099, 0x309a, 0xfe00, 0xfe0f, 0xfe20, 0xfe2f,
}

var twoWide = []rune{
	0x1100, 0x115f, 0x2e80, 0x303e, 0x3041, 0x33ff, 0x3400, 0x4dbf, 0x4e00, 0x9fff,
	0xa000, 0xa4cf, 0xac00, 0xd7a3, 0xf900, 0xfaff, 0xfe30, 0xfe6f, 0xff00, 0xff60,
	0xffe0, 0xffe6, 0x1f300, 0x1f64f, 0x1f900, 0x1f9ff, 0x20000, 0x3fffd,
}

func inPairs(r rune, pairs []rune) bool {
	for i := 0; i < len(pairs); i += 2 {
		if pairs[i] <= r && r <= pairs[i+1] {
			return true
		}
	}
	return false
}

func wantValid(r rune) bool { return r >= 0 && r <= 0x10ffff && (r < 0xd800 || r > 0xdfff) }

func wantControl(r rune) bool { return inPairs(r, []rune{0, 0x1f, 0x7f, 0x9f}) }

func wantWidth(r rune) int {
	switch {
	case !wantValid(r), wantControl(r), inPairs(r, noWidth):
		return 0
	case inPairs(r, twoWide):
		return 2
	}
	return 1
}

func wantLetter(r rune) bool {
	if inPairs(r, []rune{'0', '9', 'A', 'Z', 'a', 'z'}) {
		return true
	}
	none := []rune{0xd7, 0xd7, 0xf7, 0xf7, 0x2000, 0x206f, 0x3000, 0x303f, 0xff00, 0xff0f, 0xfffd, 0xfffd}
	return wantValid(r) && r >= 0xc0 && wantWidth(r) != 0 && !inPairs(r, none)
}

func wantUpper(r rune) rune {
	if inPairs(r, []rune{'a', 'z', 0xe0, 0xf6, 0xf8, 0xfe}) {
		return r - 32
	}
	return r
}

func wantLower(r rune) rune {
	if inPairs(r, []rune{'A', 'Z', 0xc0, 0xd6, 0xd8, 0xde}) {
		return r + 32
	}
	return r
}

// eachValue calls f with all valid runes and many values that are none.
func eachValue(f func(rune)) {
	for r := rune(-0x200); r <= 0x110200; r++ {
		f(r)
	}
	for i := range 31 {
		f(1 << i)
		f(1<<i - 1)
		f(-1 << i)
	}
	f(-1 << 31)
	f(1<<31 - 1)
}

// TestWidthEdges: P1.2, ordinary runes, the chapter's examples, and both sides of edges.
func TestWidthEdges(t *testing.T) {
	for _, c := range []struct {
		r    rune
		want int
	}{
		{'a', 1}, {' ', 1}, {'~', 1}, {0xa0, 1}, {0xe9, 1}, {0x4e00, 2}, {0x301, 0}, {api.Bad, 1},
		{0, 0}, {7, 0}, {'\t', 0}, {0x1f, 0}, {0x7f, 0}, {0x80, 0}, {0x9f, 0},
		{0x2ff, 1}, {0x300, 0}, {0x36f, 0}, {0x370, 1}, {0xe30, 1}, {0xe31, 0}, {0xe32, 1},
		{0x303e, 2}, {0x303f, 1}, {0x3040, 1}, {0x3041, 2}, {0x3098, 2}, {0x3099, 0}, {0x309a, 0}, {0x309b, 2},
		{0x4dbf, 2}, {0x4dc0, 1}, {0xd7a3, 2}, {0xd7a4, 1}, {0xfe0f, 0}, {0xfe10, 1}, {0xfe2f, 0}, {0xfe30, 2},
		{0x1f64f, 2}, {0x1f650, 1}, {0x1ffff, 1}, {0x20000, 2}, {0x3fffd, 2}, {0x3fffe, 1}, {0x10ffff, 1},
		{-1, 0}, {0xd800, 0}, {0xdfff, 0}, {0x110000, 0}, {1<<31 - 1, 0}, {-1 << 31, 0},
	} {
		if got := Width(c.r); got != c.want {
			t.Errorf("Width(%x) = %d, not %d", c.r, got, c.want)
		}
	}
}

// TestKindsExact: P1.2, every rune by the chapter's lists.
func TestKindsExact(t *testing.T) {
	eachValue(func(r rune) {
		if got := Width(r); got != wantWidth(r) {
			t.Fatalf("Width(%x) = %d", r, got)
		}
		if got := Control(r); got != wantControl(r) {
			t.Fatalf("Control(%x) = %t", r, got)
		}
		if got := Letter(r); got != wantLetter(r) {
			t.Fatalf("Letter(%x) = %t", r, got)
		}
		if got := Upper(r); got != wantUpper(r) {
			t.Fatalf("Upper(%x) = %x", r, got)
		}
		if got := Lower(r); got != wantLower(r) {
			t.Fatalf("Lower(%x) = %x", r, got)
		}
	})
}

// TestControl: P1.2.
func TestControl(t *testing.T) {
	for r, want := range map[rune]bool{0: true, 0x1f: true, 0x20: false, 0x7e: false, 0x7f: true, 0x9f: true, 0xa0: false, -1: false, 0x110000: false} {
		if Control(r) != want {
			t.Errorf("Control(%x) = %t", r, !want)
		}
	}
}

// TestLetter: P1.2.
func TestLetter(t *testing.T) {
	for _, r := range []rune{'0', '9', 'A', 'Z', 'a', 'z', 0xc0, 0xd6, 0xd8, 0xff, 0x3b1, 0x4e2d, 0x3041, 0xff10, 0x1f600, 0x10ffff} {
		if !Letter(r) {
			t.Errorf("Letter(%x) = false", r)
		}
	}
	for _, r := range []rune{'.', '/', ':', '@', '[', '_', '`', '{', ' ', 0xaa, 0xb5, 0xbf, 0xd7, 0xf7, 0x301, 0x2000, 0x2028, 0x206f, 0x3000, 0x303f, 0xff00, 0xff0f, 0xfe0f, api.Bad, -1, 0xd800, 0x110000} {
		if Letter(r) {
			t.Errorf("Letter(%x) = true", r)
		}
	}
}

// TestCase: P1.2.
func TestCase(t *testing.T) {
	for small, capital := range map[rune]rune{'a': 'A', 'z': 'Z', 0xe0: 0xc0, 0xe9: 0xc9, 0xf6: 0xd6, 0xf8: 0xd8, 0xfe: 0xde} {
		if Upper(small) != capital || Lower(capital) != small {
			t.Errorf("%x and %x: %x, %x", small, capital, Upper(small), Lower(capital))
		}
		if Upper(capital) != capital || Lower(small) != small {
			t.Errorf("%x or %x is changed", small, capital)
		}
	}
	for _, r := range []rune{'@', '[', '`', '{', '5', 0xd7, 0xf7, 0xdf, 0xff, 0x3b1, 0x391, -1, 0x110000, 1<<31 - 1, -1 << 31} {
		if Upper(r) != r || Lower(r) != r {
			t.Errorf("%x: %x, %x", r, Upper(r), Lower(r))
		}
	}
}
