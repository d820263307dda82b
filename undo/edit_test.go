package undo

import (
	"math"
	"slices"
	"strings"
	"testing"

	"lanyard/api"
)

func edit(at int, del, ins string) api.Edit {
	return api.Edit{At: at, Del: []rune(del), Ins: []rune(ins)}
}

func sameEdit(a, b api.Edit) bool {
	return a.At == b.At && slices.Equal(a.Del, b.Del) && slices.Equal(a.Ins, b.Ins)
}

func noEdit(e api.Edit) bool { return e.At == 0 && e.Del == nil && e.Ins == nil }

func wantErr(t *testing.T, what string, got, want api.Errno) {
	t.Helper()
	if got != want {
		t.Errorf("%s returns %d, not %d", what, got, want)
	}
}

func wantEdit(t *testing.T, what string, got, want api.Edit) {
	t.Helper()
	if !sameEdit(got, want) {
		t.Errorf("%s: %v, not %v", what, got, want)
	}
}

// wantLine holds what Apply returns against a line, or an error and no line.
func wantLine(t *testing.T, line []rune, e api.Edit, want []rune, wantErr api.Errno) {
	t.Helper()
	got, err := Apply(line, e)
	if err != wantErr || !slices.Equal(got, want) || err != api.OK && got != nil {
		t.Errorf("Apply of At %d, %d for %d to %d runes: %d runes, %d, not %d runes, %d", e.At, len(e.Ins), len(e.Del), len(line), len(got), err, len(want), wantErr)
	}
}

// counted returns n runes, those near one another different.
func counted(n int) []rune {
	l := make([]rune, n)
	for i := range l {
		l[i] = rune(0x100 + i)
	}
	return l
}

func spoil(lists ...[]rune) {
	for _, l := range lists {
		for i := range l[:cap(l)] {
			l[:cap(l)][i] = '#'
		}
	}
}

// oddRunes are values that a rune may have as well.
var oddRunes = []rune{0, -1, math.MinInt32, math.MaxInt32, 0xd800, 0x110000, api.Bad, 0x301, 7, 10}

// TestNumbers: the errors and the limits that the chapter names.
func TestNumbers(t *testing.T) {
	if api.MaxUndo != 16384 || api.MaxLine != 1024 || api.ErrArg != 1 || api.ErrMade != 2 || api.ErrLong != 3 || api.ErrBell != 6 {
		t.Error("a limit or an error is another number")
	}
}

// TestApply: P8.1 (Apply).
func TestApply(t *testing.T) {
	for _, c := range []struct {
		line string
		e    api.Edit
		err  api.Errno
		want string
	}{
		{"abc", edit(1, "b", "xy"), api.OK, "axyc"},
		{"abc", edit(1, "c", "xy"), api.ErrArg, ""},
		{"", edit(0, "", ""), api.OK, ""},
		{"", edit(0, "", "xy"), api.OK, "xy"},
		{"", edit(0, "x", "x"), api.ErrArg, ""},
		{"", edit(1, "", "x"), api.ErrArg, ""},
		{"", edit(-1, "", "x"), api.ErrArg, ""},
		{"abc", edit(0, "", "xy"), api.OK, "xyabc"},
		{"abc", edit(3, "", "xy"), api.OK, "abcxy"},
		{"abc", edit(4, "", "xy"), api.ErrArg, ""},
		{"abc", edit(4, "", ""), api.ErrArg, ""},
		{"abc", edit(-1, "", "xy"), api.ErrArg, ""},
		{"abc", edit(-1, "a", "xy"), api.ErrArg, ""},
		{"abc", edit(0, "abc", ""), api.OK, ""},
		{"abc", edit(0, "abc", "xyz"), api.OK, "xyz"},
		{"abc", edit(0, "abcd", ""), api.ErrArg, ""},
		{"abc", edit(2, "c", ""), api.OK, "ab"},
		{"abc", edit(2, "cd", ""), api.ErrArg, ""},
		{"abc", edit(2, "d", ""), api.ErrArg, ""},
		{"abc", edit(3, "c", ""), api.ErrArg, ""},
		{"abc", edit(0, "ab", "ab"), api.OK, "abc"},
		{"abc", edit(0, "ac", ""), api.ErrArg, ""},
		{"abc", edit(1, "", ""), api.OK, "abc"},
		{"a\u00e9\u4e2d", edit(1, "\u00e9", "e\u0301"), api.OK, "ae\u0301\u4e2d"},
		{"abc", edit(math.MaxInt, "c", "x"), api.ErrArg, ""},
		{"abc", edit(math.MaxInt, "", ""), api.ErrArg, ""},
		{"abc", edit(math.MinInt, "", "x"), api.ErrArg, ""},
	} {
		wantLine(t, []rune(c.line), c.e, []rune(c.want), c.err)
	}
	wantLine(t, oddRunes, api.Edit{At: 1, Del: oddRunes[1:4], Ins: oddRunes[5:]}, slices.Concat(oddRunes[:1], oddRunes[5:], oddRunes[4:]), api.OK)
}

// TestApplyLong: P8.1 (Apply), the greatest length of what it returns; the line itself may be longer.
func TestApplyLong(t *testing.T) {
	for _, c := range []struct {
		have, at, del, ins int
		err                api.Errno
	}{
		{0, 0, 0, 1024, api.OK},
		{0, 0, 0, 1025, api.ErrLong},
		{1023, 5, 0, 1, api.OK},
		{1023, 5, 0, 2, api.ErrLong},
		{1024, 1024, 0, 0, api.OK},
		{1024, 1024, 0, 1, api.ErrLong},
		{1024, 0, 1, 1, api.OK},
		{1024, 0, 1, 2, api.ErrLong},
		{1024, 0, 1024, 1024, api.OK},
		{1024, 0, 1024, 1025, api.ErrLong},
		{1025, 0, 0, 0, api.ErrLong},
		{1025, 1024, 1, 0, api.OK},
		{1025, 1024, 1, 1, api.ErrLong},
		{5000, 100, 3976, 0, api.OK},
		{5000, 100, 3975, 0, api.ErrLong},
		{5000, 0, 5000, 1024, api.OK},
		{5, 5, 0, 1 << 20, api.ErrLong},
	} {
		line := counted(c.have)
		e := api.Edit{At: c.at, Del: line[c.at : c.at+c.del], Ins: slices.Repeat([]rune{'x'}, c.ins)}
		if c.err != api.OK {
			wantLine(t, line, e, nil, c.err)
			continue
		}
		wantLine(t, line, e, slices.Concat(line[:c.at], e.Ins, line[c.at+c.del:]), api.OK)
	}
	// R2: what does not stand there comes first.
	line := counted(1024)
	for _, e := range []api.Edit{{At: -1, Ins: line}, {At: 1025, Ins: line}, {At: 3, Del: line[4:5], Ins: line}, {At: 1023, Del: line[:2], Ins: line}} {
		wantLine(t, line, e, nil, api.ErrArg)
	}
}

// replaced is a line of strings behind an edit, whatever its length, and whether the edit fits it.
func replaced(line string, at int, del, ins string) (string, bool) {
	if at < 0 || at > len(line) || !strings.HasPrefix(line[at:], del) {
		return "", false
	}
	return line[:at] + ins + strings.TrimPrefix(line[at:], del), true
}

// texts are all texts of a and b of at most that length.
func texts(longest int) []string {
	all := []string{""}
	for from := 0; longest > 0; longest-- {
		to := len(all)
		for _, text := range all[from:to] {
			all = append(all, text+"a", text+"b")
		}
		from = to
	}
	return all
}

// shortEdits are all edits of short texts near the beginning of a line.
func shortEdits() []api.Edit {
	var all []api.Edit
	for at := -1; at <= 4; at++ {
		for _, del := range texts(2) {
			for _, ins := range texts(2) {
				all = append(all, edit(at, del, ins))
			}
		}
	}
	return all
}

// TestApplyShort: P8.1 and P8.6, each short edit of each short line, and its inverse.
func TestApplyShort(t *testing.T) {
	for _, line := range texts(4) {
		for _, e := range shortEdits() {
			want, fits := replaced(line, e.At, string(e.Del), string(e.Ins))
			if !fits {
				wantLine(t, []rune(line), e, nil, api.ErrArg)
				continue
			}
			wantLine(t, []rune(line), e, []rune(want), api.OK)
			wantLine(t, []rune(want), Inverse(e), []rune(line), api.OK)
		}
	}
}

// TestInverse: P8.1 (Inverse) and P8.6.
func TestInverse(t *testing.T) {
	wantEdit(t, "Inverse", Inverse(edit(1, "b", "xy")), edit(1, "xy", "b"))
	wantEdit(t, "Inverse", Inverse(edit(7, "", "xy")), edit(7, "xy", ""))
	wantEdit(t, "Inverse", Inverse(edit(7, "xy", "")), edit(7, "", "xy"))
	wantEdit(t, "Inverse", Inverse(api.Edit{}), api.Edit{})
	wantEdit(t, "Inverse", Inverse(api.Edit{At: math.MinInt, Del: oddRunes}), api.Edit{At: math.MinInt, Ins: oddRunes})
	long := counted(5000)
	wantEdit(t, "Inverse", Inverse(api.Edit{At: math.MaxInt, Del: long, Ins: long[1:]}), api.Edit{At: math.MaxInt, Del: long[1:], Ins: long})
	for _, e := range shortEdits() {
		wantEdit(t, "Inverse of Inverse", Inverse(Inverse(e)), e)
	}
}

// wantJoin holds what Join returns against an edit, or none.
func wantJoin(t *testing.T, a, b, want api.Edit, wantIs bool) {
	t.Helper()
	got, is := Join(a, b)
	if is != wantIs || !sameEdit(got, want) || !is && !noEdit(got) {
		t.Errorf("Join of %v and %v: %v, %v, not %v, %v", a, b, got, is, want, wantIs)
	}
}

// TestJoin: P8.2, both cases and what is near them.
func TestJoin(t *testing.T) {
	for _, c := range []struct {
		a, b, want api.Edit
		is         bool
	}{
		{edit(3, "", "a"), edit(4, "", "b"), edit(3, "", "ab"), true},
		{edit(4, "b", ""), edit(3, "a", ""), edit(3, "ab", ""), true},
		{edit(3, "", "a"), edit(3, "", "b"), api.Edit{}, false},
		{edit(3, "", "a"), edit(5, "", "b"), api.Edit{}, false},
		{edit(3, "", "abc"), edit(6, "", "de"), edit(3, "", "abcde"), true},
		{edit(3, "", "abc"), edit(5, "", "de"), api.Edit{}, false},
		{edit(3, "xyz", "a"), edit(4, "", "b"), edit(3, "xyz", "ab"), true},
		{edit(3, "xyz", ""), edit(3, "", "b"), edit(3, "xyz", "b"), true},
		{edit(3, "", "a"), edit(4, "x", "b"), api.Edit{}, false},
		{edit(3, "", "a"), edit(4, "x", ""), api.Edit{}, false},
		{edit(3, "", "a"), edit(3, "a", ""), api.Edit{}, false},
		{edit(4, "b", ""), edit(4, "c", ""), api.Edit{}, false},
		{edit(4, "b", ""), edit(2, "a", ""), api.Edit{}, false},
		{edit(4, "cd", ""), edit(2, "ab", ""), edit(2, "abcd", ""), true},
		{edit(4, "cd", "x"), edit(2, "ab", ""), api.Edit{}, false},
		{edit(4, "cd", ""), edit(2, "ab", "x"), api.Edit{}, false},
		{edit(4, "", ""), edit(2, "ab", ""), edit(2, "ab", ""), true},
		{edit(4, "ab", ""), edit(4, "", ""), edit(4, "ab", ""), true},
		{edit(4, "", "ab"), edit(6, "", ""), edit(4, "", "ab"), true},
		{edit(4, "", "ab"), edit(4, "", ""), api.Edit{}, false},
		{edit(4, "", ""), edit(4, "", "ab"), edit(4, "", "ab"), true},
		{edit(4, "", ""), edit(4, "", ""), edit(4, "", ""), true},
		{edit(4, "", ""), edit(4, "a", ""), api.Edit{}, false},
		{edit(0, "", ""), edit(0, "", ""), edit(0, "", ""), true},
		{edit(0, "", "a"), edit(1, "", "b"), edit(0, "", "ab"), true},
		{edit(1, "b", ""), edit(0, "a", ""), edit(0, "ab", ""), true},
	} {
		wantJoin(t, c.a, c.b, c.want, c.is)
	}
}

// TestJoinFar: P8.2 at the ends of the integers: a sum that wraps round is not the place of b, or of a.
func TestJoinFar(t *testing.T) {
	for _, c := range []struct {
		a, b, want api.Edit
		is         bool
	}{
		{edit(math.MaxInt, "", "a"), edit(math.MinInt, "", "b"), api.Edit{}, false},
		{edit(math.MaxInt, "", "ab"), edit(math.MinInt+1, "", "b"), api.Edit{}, false},
		{edit(math.MinInt, "a", ""), edit(math.MaxInt, "b", ""), api.Edit{}, false},
		{edit(math.MinInt+1, "a", ""), edit(math.MaxInt, "bc", ""), api.Edit{}, false},
		{edit(math.MaxInt-1, "", "a"), edit(math.MaxInt, "", "b"), edit(math.MaxInt-1, "", "ab"), true},
		{edit(math.MaxInt, "x", ""), edit(math.MaxInt, "", "b"), edit(math.MaxInt, "x", "b"), true},
		{edit(math.MaxInt, "b", ""), edit(math.MaxInt-1, "a", ""), edit(math.MaxInt-1, "ab", ""), true},
		{edit(math.MinInt+1, "b", ""), edit(math.MinInt, "a", ""), edit(math.MinInt, "ab", ""), true},
		{edit(-3, "", "a"), edit(-2, "", "b"), edit(-3, "", "ab"), true},
		{edit(-1, "b", ""), edit(-2, "a", ""), edit(-2, "ab", ""), true},
		{edit(-1, "", "a"), edit(0, "", "b"), edit(-1, "", "ab"), true},
		{edit(math.MaxInt, "", "a"), edit(math.MaxInt, "", "b"), api.Edit{}, false},
		{edit(math.MinInt, "", "a"), edit(math.MaxInt, "", "b"), api.Edit{}, false},
	} {
		wantJoin(t, c.a, c.b, c.want, c.is)
	}
}

// TestJoinLong: P8.2, no length is too great.
func TestJoinLong(t *testing.T) {
	long := counted(3000)
	wantJoin(t, api.Edit{At: 9, Ins: long[:1000]}, api.Edit{At: 1009, Ins: long[1000:]}, api.Edit{At: 9, Ins: long}, true)
	wantJoin(t, api.Edit{At: 2009, Del: long[2000:]}, api.Edit{At: 9, Del: long[:2000]}, api.Edit{At: 9, Del: long}, true)
	wantJoin(t, api.Edit{At: 9, Ins: long[:1000]}, api.Edit{At: 1008, Ins: long[1000:]}, api.Edit{}, false)
}

// joinable is P8.2's list of cases.
func joinable(a, b api.Edit) (api.Edit, bool) {
	first := len(b.Del) == 0 && b.At == a.At+len(a.Ins)
	second := len(a.Ins) == 0 && len(b.Ins) == 0 && b.At+len(b.Del) == a.At
	if first {
		return edit(a.At, string(a.Del), string(a.Ins)+string(b.Ins)), true
	}
	if second {
		return edit(b.At, string(b.Del)+string(a.Del), ""), true
	}
	return api.Edit{}, false
}

// TestJoinShort: P8.2 and P8.6, each pair of short edits, and their effect on each short line.
func TestJoinShort(t *testing.T) {
	lines := texts(5)
	for _, a := range shortEdits() {
		for _, b := range shortEdits() {
			want, is := joinable(a, b)
			wantJoin(t, a, b, want, is)
			if !is || t.Failed() {
				continue
			}
			for _, line := range lines {
				checkJoined(t, line, a, b, want)
			}
		}
	}
}

// checkJoined: where a and then b fit the line, the joined edit fits it and leaves the same.
func checkJoined(t *testing.T, line string, a, b, joined api.Edit) {
	t.Helper()
	after, fits := replaced(line, a.At, string(a.Del), string(a.Ins))
	if fits {
		after, fits = replaced(after, b.At, string(b.Del), string(b.Ins))
	}
	if fits {
		wantLine(t, []rune(line), joined, []rune(after), api.OK)
	}
}

// TestOwnershipOfEdits: R3, arguments are neither changed nor shared by results, and no two lists of a result share memory.
func TestOwnershipOfEdits(t *testing.T) {
	text := []rune("abcdef")
	unchanged := func(what string) {
		t.Helper()
		if string(text) != "abcdef" {
			t.Errorf("%s: %s", what, string(text))
		}
	}
	for _, e := range []api.Edit{{At: 1, Del: text[1:3], Ins: text[2:5]}, {At: 0, Ins: nil}, {At: 6, Ins: text}, {At: 0, Del: text[:2]}, {At: 0, Del: text, Ins: text}} {
		line, err := Apply(text[:6:6], e)
		wantErr(t, "Apply", err, api.OK)
		spoil(line)
		unchanged("Apply")
	}
	line, _ := Apply(text[:2], api.Edit{At: 2, Ins: []rune("xyz")})
	if string(line) != "abxyz" {
		t.Error(string(line))
	}
	unchanged("Apply within a longer list")

	i := Inverse(api.Edit{Del: text[:3], Ins: text[1:4]})
	spoil(i.Del)
	unchanged("Inverse")
	wantEdit(t, "Inverse", i, edit(0, "###", "abc"))
	spoil(i.Ins)
	unchanged("Inverse")

	for _, c := range [][2]api.Edit{
		{{At: 0, Del: text[:2], Ins: text[:3]}, {At: 3, Ins: text[3:4]}},
		{{At: 0, Del: text[:2], Ins: text[:3]}, {At: 3, Ins: nil}},
		{{At: 0, Del: text[:2], Ins: nil}, {At: 0, Ins: text[:2]}},
		{{At: 2, Del: text[2:4]}, {At: 0, Del: text[:2]}},
		{{At: 2, Del: text[2:4]}, {At: 2}},
		{{At: 2}, {At: 0, Del: text[:2]}},
	} {
		j, is := Join(c[0], c[1])
		if !is {
			t.Errorf("Join of %v", c)
		}
		ins := string(j.Ins)
		spoil(j.Del)
		unchanged("Join")
		if string(j.Ins) != ins {
			t.Error("Del and Ins of a joined edit share memory")
		}
		spoil(j.Ins)
		unchanged("Join")
	}
}
