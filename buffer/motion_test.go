package buffer

import (
	"math"
	"slices"
	"testing"

	"lanyard/api"
	"lanyard/ucell"
)

// sample is the line of the chapter's examples.
func sample() []rune { return append([]rune("foo  bar."), 0xe9, ' ', 'x') }

// reached is where a motion comes to from at.
type reached struct{ at, want int }

func checkMotion(t *testing.T, name string, motion func([]rune, int) int, l []rune, list ...reached) {
	t.Helper()
	before := slices.Clone(l)
	for _, c := range list {
		if got := motion(l, c.at); got != c.want {
			t.Errorf("%s of %q at %d is %d, not %d", name, string(l), c.at, got, c.want)
		}
	}
	if !slices.Equal(before, l) {
		t.Errorf("%s changes its argument", name)
	}
}

// TestNext: P7.5 (Next).
func TestNext(t *testing.T) {
	far := func(n int) []reached {
		return []reached{{n, n}, {n + 1, n}, {n + 2, n}, {math.MaxInt, n}}
	}
	l := []rune{'e', 0x301, 'b'}
	checkMotion(t, "Next", Next, l, append(far(3), reached{0, 2}, reached{1, 2}, reached{2, 3}, reached{-1, 2}, reached{math.MinInt, 2})...)
	checkMotion(t, "Next", Next, nil, append(far(0), reached{-1, 0}, reached{math.MinInt, 0})...)
	// Controls have the width 0, and the point stops at them.
	checkMotion(t, "Next", Next, []rune{'a', 1, 9, 0x7f, 0x9f, 0, 'b'}, reached{0, 1}, reached{1, 2}, reached{2, 3}, reached{3, 4}, reached{4, 5}, reached{5, 6}, reached{6, 7})
	// Values that are no valid runes have the width 0 and are no controls.
	checkMotion(t, "Next", Next, []rune{'a', -1, 0xd800, 0x110000, math.MinInt32, 0x4e00, 0x200b, api.Bad}, reached{0, 5}, reached{3, 5}, reached{5, 7}, reached{7, 8})
	checkMotion(t, "Next", Next, []rune{0x301, 0x301, 0x302}, reached{0, 3}, reached{1, 3}, reached{-9, 3})
	checkMotion(t, "Next", Next, []rune{0x301, 'a'}, reached{0, 1}, reached{1, 2})
}

// TestPrevious: P7.5 (Previous).
func TestPrevious(t *testing.T) {
	l := []rune{'e', 0x301, 'b'}
	checkMotion(t, "Previous", Previous, l, reached{2, 0}, reached{1, 0}, reached{0, 0}, reached{3, 2}, reached{4, 2}, reached{math.MaxInt, 2}, reached{-1, 0}, reached{math.MinInt, 0})
	checkMotion(t, "Previous", Previous, nil, reached{0, 0}, reached{1, 0}, reached{-1, 0}, reached{math.MaxInt, 0})
	checkMotion(t, "Previous", Previous, []rune{'a', 1, 9, 0x7f, 0x9f, 0, 'b'}, reached{1, 0}, reached{2, 1}, reached{3, 2}, reached{4, 3}, reached{5, 4}, reached{6, 5}, reached{7, 6})
	checkMotion(t, "Previous", Previous, []rune{'a', 'b', -1, 0xdfff, 0x110000, math.MaxInt32, 0x4e00, 0x200b, api.Bad}, reached{9, 8}, reached{8, 6}, reached{7, 6}, reached{6, 1}, reached{3, 1}, reached{2, 1}, reached{1, 0})
	checkMotion(t, "Previous", Previous, []rune{0x301, 0x301, 0x302}, reached{3, 0}, reached{1, 0}, reached{0, 0})
	checkMotion(t, "Previous", Previous, []rune{'a', 0x301, 0x302}, reached{3, 0}, reached{99, 0})
}

// TestWordEnd: P7.5 (WordEnd).
func TestWordEnd(t *testing.T) {
	checkMotion(t, "WordEnd", WordEnd, []rune("foo  bar."), reached{3, 8}, reached{0, 3}, reached{1, 3}, reached{2, 3}, reached{4, 8}, reached{5, 8}, reached{8, 9}, reached{9, 9}, reached{10, 9}, reached{math.MaxInt, 9}, reached{-1, 3}, reached{math.MinInt, 3})
	checkMotion(t, "WordEnd", WordEnd, sample(), reached{8, 10}, reached{9, 10}, reached{10, 12}, reached{12, 12})
	checkMotion(t, "WordEnd", WordEnd, []rune("_a1Z-"), reached{0, 4}, reached{4, 5})
	// A rune of width 0 does not belong to a word.
	checkMotion(t, "WordEnd", WordEnd, []rune{'e', 0x301, 'b', 0x4e00, 0xd7, 'x', 7}, reached{0, 1}, reached{1, 4}, reached{4, 6}, reached{6, 7})
	checkMotion(t, "WordEnd", WordEnd, nil, reached{0, 0}, reached{5, 0}, reached{-5, 0})
}

// TestWordStart: P7.5 (WordStart).
func TestWordStart(t *testing.T) {
	checkMotion(t, "WordStart", WordStart, []rune("foo  bar."), reached{5, 0}, reached{0, 0}, reached{1, 0}, reached{3, 0}, reached{4, 0}, reached{6, 5}, reached{8, 5}, reached{9, 5}, reached{10, 5}, reached{math.MaxInt, 5}, reached{-1, 0}, reached{math.MinInt, 0})
	checkMotion(t, "WordStart", WordStart, sample(), reached{12, 11}, reached{11, 9}, reached{10, 9}, reached{9, 5})
	checkMotion(t, "WordStart", WordStart, []rune("  a1Z-"), reached{6, 2}, reached{2, 0}, reached{1, 0})
	checkMotion(t, "WordStart", WordStart, []rune{'e', 0x301, 'b', 0x4e00, 0xf7, 'x', 7}, reached{7, 5}, reached{5, 2}, reached{2, 0}, reached{3, 2})
	checkMotion(t, "WordStart", WordStart, nil, reached{0, 0}, reached{5, 0}, reached{-5, 0})
}

// TestBlankStart: P7.5 (BlankStart).
func TestBlankStart(t *testing.T) {
	checkMotion(t, "BlankStart", BlankStart, sample(), reached{10, 5}, reached{11, 5}, reached{12, 11}, reached{99, 11}, reached{math.MaxInt, 11}, reached{5, 0}, reached{4, 0}, reached{1, 0}, reached{0, 0}, reached{-1, 0}, reached{math.MinInt, 0})
	// No other rune is a blank.
	checkMotion(t, "BlankStart", BlankStart, []rune{'a', ' ', '\t', 'b', '\n', 0xa0, 0x3000, 0, 11, '\t', ' '}, reached{11, 3}, reached{10, 3}, reached{9, 3}, reached{3, 0}, reached{2, 0})
	checkMotion(t, "BlankStart", BlankStart, []rune(" \t"), reached{2, 0}, reached{1, 0})
	checkMotion(t, "BlankStart", BlankStart, nil, reached{0, 0}, reached{5, 0}, reached{-5, 0})
}

// TestBlankEnd: P7.5 (BlankEnd).
func TestBlankEnd(t *testing.T) {
	checkMotion(t, "BlankEnd", BlankEnd, sample(), reached{3, 10}, reached{0, 3}, reached{2, 3}, reached{4, 10}, reached{7, 10}, reached{10, 12}, reached{11, 12}, reached{12, 12}, reached{math.MaxInt, 12}, reached{-1, 3}, reached{math.MinInt, 3})
	checkMotion(t, "BlankEnd", BlankEnd, []rune{' ', '\t', 'b', '\n', 0xa0, 0x3000, 0, 11, '\t', ' ', 'a', ' '}, reached{0, 8}, reached{2, 8}, reached{8, 11}, reached{9, 11}, reached{11, 12})
	checkMotion(t, "BlankEnd", BlankEnd, []rune(" \t"), reached{0, 2}, reached{1, 2})
	checkMotion(t, "BlankEnd", BlankEnd, nil, reached{0, 0}, reached{5, 0}, reached{-5, 0})
}

// TestFind: P7.5 (Find).
func TestFind(t *testing.T) {
	l := []rune("foo  bar.oo")
	for _, c := range []struct {
		at      int
		r       rune
		forward bool
		want    int
		found   bool
	}{
		{0, 'o', true, 1, true},
		{1, 'o', true, 2, true},
		{2, 'o', true, 9, true},
		{9, 'o', true, 10, true},
		{10, 'o', true, 0, false},
		{11, 'o', true, 0, false},
		{99, 'o', true, 0, false},
		{math.MaxInt, 'o', true, 0, false},
		{0, 'f', true, 0, false},
		{-1, 'f', true, 0, false}, // it counts as 0
		{math.MinInt, 'o', true, 1, true},
		{0, 'z', true, 0, false},
		{0, '.', true, 8, true},
		{11, 'o', false, 10, true},
		{10, 'o', false, 9, true},
		{9, 'o', false, 2, true},
		{2, 'o', false, 1, true},
		{1, 'o', false, 0, false},
		{1, 'f', false, 0, true},
		{0, 'f', false, 0, false},
		{-1, 'f', false, 0, false},
		{math.MinInt, 'f', false, 0, false},
		{99, 'o', false, 10, true},
		{math.MaxInt, 'f', false, 0, true},
		{11, 'z', false, 0, false},
	} {
		if got, found := Find(l, c.at, c.r, c.forward); got != c.want || found != c.found {
			t.Errorf("Find at %d of %q, forward %t: %d, %t", c.at, c.r, c.forward, got, found)
		}
	}
	if at, found := Find(sample(), 0, 'o', true); at != 1 || !found {
		t.Error("the example", at, found)
	}
	for i, r := range oddRunes[1:] {
		if at, found := Find(oddRunes, 0, r, true); at != i+1 || !found {
			t.Errorf("Find of %x: %d, %t", r, at, found)
		}
	}
	for _, forward := range []bool{true, false} {
		for _, at := range []int{0, 1, -1, math.MaxInt, math.MinInt} {
			if got, found := Find(nil, at, 0, forward); got != 0 || found {
				t.Errorf("Find in nothing: %d, %t", got, found)
			}
		}
	}
}

// The models of the motions say what is asked of the place reached, place by place.

func modelNext(l []rune, at int) int {
	for p := 0; p < len(l); p++ {
		if p > at && (ucell.Width(l[p]) > 0 || ucell.Control(l[p])) {
			return p
		}
	}
	return len(l)
}

func modelPrevious(l []rune, at int) int {
	best := 0
	for p := 0; p < len(l); p++ {
		if p < at && (ucell.Width(l[p]) > 0 || ucell.Control(l[p])) {
			best = p
		}
	}
	return best
}

// modelEnd returns the first place after at that ends a run of runes that are in, and else the length.
func modelEnd(l []rune, at int, in func(rune) bool) int {
	for p := at + 1; p < len(l); p++ {
		if in(l[p-1]) && !in(l[p]) {
			return p
		}
	}
	return len(l)
}

// modelStart returns the last place ahead of at that begins a run of runes that are in, and else 0.
func modelStart(l []rune, at int, in func(rune) bool) int {
	for p := at - 1; p > 0; p-- {
		if in(l[p]) && !in(l[p-1]) {
			return p
		}
	}
	return 0
}

func modelFind(l []rune, at int, r rune, forward bool) (int, bool) {
	if forward {
		for p := at + 1; p < len(l); p++ {
			if l[p] == r {
				return p, true
			}
		}
		return 0, false
	}
	for p := at - 1; p >= 0; p-- {
		if l[p] == r {
			return p, true
		}
	}
	return 0, false
}

func modelBlank(r rune) bool    { return r == 32 || r == 9 }
func modelNotBlank(r rune) bool { return !modelBlank(r) }

// TestMotionsModel: each short line of some kinds of runes, and each place.
func TestMotionsModel(t *testing.T) {
	kinds := []rune{'a', '.', ' ', '\t', 0x301, 7, 0x4e00, 0xd800}
	lines := [][]rune{nil}
	for i := 0; i < len(lines); i++ {
		checkMotions(t, lines[i], kinds)
		if len(lines[i]) < 5 {
			for _, r := range kinds {
				lines = append(lines, append(slices.Clone(lines[i]), r))
			}
		}
	}
}

func checkMotions(t *testing.T, l, kinds []rune) {
	t.Helper()
	for given := -2; given <= len(l)+2; given++ {
		at := min(max(given, 0), len(l))
		got := []int{Next(l, given), Previous(l, given), WordEnd(l, given), WordStart(l, given), BlankEnd(l, given), BlankStart(l, given)}
		want := []int{modelNext(l, at), modelPrevious(l, at), modelEnd(l, at, ucell.Letter), modelStart(l, at, ucell.Letter), modelEnd(l, at, modelNotBlank), modelStart(l, at, modelNotBlank)}
		if !slices.Equal(got, want) {
			t.Fatalf("%x at %d: %v, not %v", l, given, got, want)
		}
		checkWords(t, l, at)
		for _, r := range kinds {
			for _, forward := range []bool{true, false} {
				got, found := Find(l, given, r, forward)
				want, is := modelFind(l, at, r, forward)
				if got != want || found != is {
					t.Fatalf("Find of %x in %x at %d, forward %t: %d, %t", r, l, given, forward, got, found)
				}
			}
		}
	}
}

// checkWords: P7.8.
func checkWords(t *testing.T, l []rune, at int) {
	t.Helper()
	start, end := WordStart(l, at), WordEnd(l, at)
	if start > at || start < 0 || end < at || end > len(l) {
		t.Fatalf("%x at %d: a word from %d and one to %d", l, at, start, end)
	}
	if slices.ContainsFunc(l[:at], ucell.Letter) != slices.ContainsFunc(l[start:at], ucell.Letter) {
		t.Fatalf("%x: no word between %d and %d", l, start, at)
	}
	if slices.ContainsFunc(l[at:], ucell.Letter) != slices.ContainsFunc(l[at:end], ucell.Letter) {
		t.Fatalf("%x: no word between %d and %d", l, at, end)
	}
}

// TestLongLines: THE BOUND; a line may be of any length here.
func TestLongLines(t *testing.T) {
	const n = 1 << 21
	for _, r := range []rune{'a', ' ', '.', 0x301, -1} {
		l := slices.Repeat([]rune{r}, n)
		l[0], l[n-1] = 'x', 'y'
		got := []int{Next(l, n-2), Previous(l, n), WordStart(l, n), WordEnd(l, 0), BlankStart(l, n), BlankEnd(l, 0)}
		want := []int{n - 1, n - 1, n - 1, 1, 0, n}
		switch r {
		case 'a':
			want[2], want[3] = 0, n
		case ' ':
			want[4], want[5] = n-1, 1
		}
		if !slices.Equal(got, want) {
			t.Errorf("%x: %v, not %v", r, got, want)
		}
		if at, found := Find(l, 0, 'y', true); at != n-1 || !found {
			t.Errorf("%x: Find forward: %d", r, at)
		}
		if at, found := Find(l, n, 'x', false); at != 0 || !found {
			t.Errorf("%x: Find backward: %d", r, at)
		}
	}
}
