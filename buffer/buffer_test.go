package buffer

import (
	"math"
	"slices"
	"strconv"
	"strings"
	"testing"

	"lanyard/api"
)

// must returns a buffer with that text, point and mark.
func must(t *testing.T, text string, point, mark int) *Buffer {
	t.Helper()
	return with(t, []rune(text), point, mark)
}

func with(t *testing.T, l []rune, point, mark int) *Buffer {
	t.Helper()
	b, err := New(l...)
	if err != api.OK || b == nil {
		t.Fatalf("New of %d runes: %v, %v", len(l), b, err)
	}
	if b.Move(point) != api.OK || b.SetMark(mark) != api.OK {
		t.Fatalf("Move(%d) or SetMark(%d) in %d runes", point, mark, len(l))
	}
	return b
}

// look returns the text, the point and the mark: "abc@1,-1".
func look(b *Buffer) string { return shown(b.Line()) }

func shown(l api.Line) string {
	return string(l.Text) + "@" + strconv.Itoa(l.Point) + "," + strconv.Itoa(l.Mark)
}

func wantLook(t *testing.T, what string, b *Buffer, want string) {
	t.Helper()
	if got := look(b); got != want {
		t.Errorf("%s: %s, not %s", what, got, want)
	}
}

func wantErr(t *testing.T, what string, got, want api.Errno) {
	t.Helper()
	if got != want {
		t.Errorf("%s returns %d, not %d", what, got, want)
	}
}

func edit(at int, del, ins string) api.Edit {
	return api.Edit{At: at, Del: []rune(del), Ins: []rune(ins)}
}

func sameEdit(a, b api.Edit) bool {
	return a.At == b.At && slices.Equal(a.Del, b.Del) && slices.Equal(a.Ins, b.Ins)
}

func wantEdit(t *testing.T, what string, got, want api.Edit) {
	t.Helper()
	if !sameEdit(got, want) {
		t.Errorf("%s returns %v, not %v", what, got, want)
	}
}

func noEdit(e api.Edit) bool { return e.At == 0 && e.Del == nil && e.Ins == nil }

// fullLine returns MaxLine runes, no two of them alike.
func fullLine() []rune {
	l := make([]rune, api.MaxLine)
	for i := range l {
		l[i] = rune(0x100 + i)
	}
	return l
}

// oddRunes are values that a rune may have as well.
var oddRunes = []rune{0, -1, math.MinInt32, math.MaxInt32, 0xd800, 0xdfff, 0x110000, 0x10ffff, api.Bad, 0x301, 7, 0x80}

// farPlaces are places of no line.
var farPlaces = []int{-1, -2, api.MaxLine + 1, math.MinInt, math.MinInt + 1, math.MaxInt, math.MaxInt - 1, math.MinInt32, math.MaxInt32}

// TestNew: P7.1.
func TestNew(t *testing.T) {
	for _, l := range [][]rune{nil, {}, {'a'}, []rune("foo  bar"), oddRunes, fullLine()[:api.MaxLine-1], fullLine()} {
		b, err := New(l...)
		if err != api.OK || !slices.Equal(b.Text(), l) || b.Len() != len(l) || b.Point() != len(l) || b.Mark() != -1 {
			t.Errorf("New of %d runes: %v, point %d, mark %d", len(l), err, b.Point(), b.Mark())
		}
	}
	for _, more := range []int{1, 2, api.MaxLine, 1 << 20} {
		if b, err := New(make([]rune, api.MaxLine+more)...); b != nil || err != api.ErrLong {
			t.Errorf("New of %d runes: %v", api.MaxLine+more, err)
		}
	}
	if api.MaxLine != 1024 || api.ErrPlace != 70 || api.ErrEdit != 71 {
		t.Error("MaxLine, ErrPlace or ErrEdit is another number")
	}
}

// TestNewOnes: buffers do not know of one another.
func TestNewOnes(t *testing.T) {
	a, b := must(t, "ab", 1, 0), must(t, "cd", 2, -1)
	a.Insert('x')
	wantLook(t, "the other one", b, "cd@2,-1")
	b.Delete(0, 2)
	wantLook(t, "the first one", a, "axb@2,0")
}

// TestReplace: P7.2 (Replace), the runes, the edit, point and mark.
func TestReplace(t *testing.T) {
	for _, c := range []struct {
		point, mark, from, to int
		ins, del, want        string
	}{
		{3, -1, 1, 3, "xyz", "bc", "axyzdef@4,-1"},
		{0, 6, 1, 3, "x", "bc", "axdef@0,5"},
		{1, 1, 1, 3, "x", "bc", "axdef@2,1"},
		{2, 2, 1, 3, "x", "bc", "axdef@2,1"},
		{3, 3, 1, 3, "x", "bc", "axdef@2,1"},
		{4, 4, 1, 3, "x", "bc", "axdef@3,3"},
		{6, 0, 1, 3, "", "bc", "adef@4,0"},
		{2, 5, 2, 2, "xy", "", "abxycdef@4,7"},
		{5, 2, 2, 2, "xy", "", "abxycdef@7,2"},
		{2, 3, 2, 2, "", "", "abcdef@2,3"},
		{3, 3, 0, 6, "", "abcdef", "@0,0"},
		{0, 0, 0, 6, "xyz", "abcdef", "xyz@3,0"},
		{6, 6, 0, 6, "xyz", "abcdef", "xyz@3,0"},
		{6, 6, 6, 6, "xyz", "", "abcdefxyz@9,6"},
		{0, 0, 0, 0, "xyz", "", "xyzabcdef@3,0"},
		{5, 1, 2, 4, "cd", "cd", "abcdef@5,1"},
		{2, 4, 2, 4, "cd", "cd", "abcdef@4,2"},
	} {
		b := must(t, "abcdef", c.point, c.mark)
		e, err := b.Replace(c.from, c.to, []rune(c.ins)...)
		wantErr(t, "Replace", err, api.OK)
		wantEdit(t, "Replace", e, edit(c.from, c.del, c.ins))
		wantLook(t, "point "+strconv.Itoa(c.point)+", mark "+strconv.Itoa(c.mark)+", Replace by "+c.ins, b, c.want)
	}
}

// TestReplaceErrors: P7.2, the places that there are not, ahead of ErrLong; nothing changes.
func TestReplaceErrors(t *testing.T) {
	b := must(t, "abcd", 2, 3)
	pairs := [][2]int{{3, 2}, {4, 0}, {1, 0}, {0, 5}, {5, 5}, {4, 5}, {5, 4}, {-1, -1}, {-1, 0}, {-2, 4}, {math.MaxInt, math.MinInt}, {math.MinInt, math.MaxInt}}
	for _, at := range farPlaces {
		pairs = append(pairs, [2]int{at, 2}, [2]int{2, at}, [2]int{at, at})
	}
	for _, p := range pairs {
		for _, l := range [][]rune{nil, []rune("xy"), make([]rune, api.MaxLine+9)} {
			if e, err := b.Replace(p[0], p[1], l...); err != api.ErrPlace || !noEdit(e) {
				t.Errorf("Replace(%d, %d) by %d runes: %v, %v", p[0], p[1], len(l), e, err)
			}
		}
		if e, err := b.Delete(p[0], p[1]); err != api.ErrPlace || !noEdit(e) {
			t.Errorf("Delete(%d, %d): %v, %v", p[0], p[1], e, err)
		}
		wantLook(t, "after errors", b, "abcd@2,3")
	}
}

// TestReplaceLong: P7.2 and P7.7, the greatest length.
func TestReplaceLong(t *testing.T) {
	full := fullLine()
	for _, c := range []struct {
		have, from, to, n int
		want              api.Errno
	}{
		{0, 0, 0, 1024, api.OK},
		{0, 0, 0, 1025, api.ErrLong},
		{1023, 1000, 1000, 1, api.OK},
		{1023, 0, 0, 2, api.ErrLong},
		{1024, 1024, 1024, 0, api.OK},
		{1024, 1024, 1024, 1, api.ErrLong},
		{1024, 0, 0, 1, api.ErrLong},
		{1024, 3, 4, 1, api.OK},
		{1024, 3, 4, 2, api.ErrLong},
		{1024, 0, 1024, 1024, api.OK},
		{1024, 0, 1024, 1025, api.ErrLong},
		{1024, 1000, 1024, 24, api.OK},
		{1024, 1000, 1024, 25, api.ErrLong},
		{600, 100, 300, 624, api.OK},
		{600, 100, 300, 625, api.ErrLong},
		{5, 5, 5, 1 << 20, api.ErrLong},
	} {
		b := with(t, full[:c.have], c.have/2, c.have/3)
		before := b.Line()
		l := slices.Repeat([]rune{'x'}, c.n)
		want := slices.Concat(full[:c.from], l, full[c.to:c.have])
		e, err := b.Replace(c.from, c.to, l...)
		wantErr(t, "Replace", err, c.want)
		if err != api.OK {
			want = full[:c.have]
			if !noEdit(e) || b.Point() != before.Point || b.Mark() != before.Mark {
				t.Errorf("%v: an error has an effect", c)
			}
		}
		if !slices.Equal(b.Text(), want) || b.Len() != len(want) || b.Len() > api.MaxLine {
			t.Errorf("%v: another text, of %d runes", c, b.Len())
		}
	}
}

// TestInsert: P7.2 (Insert), the example and the places of the point.
func TestInsert(t *testing.T) {
	b := must(t, "hello", 0, 3)
	e, err := b.Insert('a', 'b')
	wantErr(t, "Insert", err, api.OK)
	wantEdit(t, "Insert", e, edit(0, "", "ab"))
	wantLook(t, "Insert", b, "abhello@2,5")
	for _, c := range []struct {
		point, mark int
		want        string
	}{{0, -1, "xyabc@2,-1"}, {1, 0, "axybc@3,0"}, {1, 1, "axybc@3,1"}, {1, 2, "axybc@3,4"}, {3, 3, "abcxy@5,3"}, {3, -1, "abcxy@5,-1"}} {
		b := must(t, "abc", c.point, c.mark)
		e, err := b.Insert('x', 'y')
		wantErr(t, "Insert", err, api.OK)
		wantEdit(t, "Insert", e, edit(c.point, "", "xy"))
		wantLook(t, "Insert", b, c.want)
	}
	b = must(t, "abc", 1, 2)
	e, err = b.Insert()
	wantErr(t, "Insert of nothing", err, api.OK)
	wantEdit(t, "Insert of nothing", e, edit(1, "", ""))
	wantLook(t, "Insert of nothing", b, "abc@1,2")
}

// TestInsertLong: Insert into a line that is nearly full.
func TestInsertLong(t *testing.T) {
	b := with(t, fullLine()[:api.MaxLine-2], 7, 9)
	e, err := b.Insert('x', 'y', 'z')
	if err != api.ErrLong || !noEdit(e) || b.Len() != api.MaxLine-2 || b.Point() != 7 || b.Mark() != 9 {
		t.Errorf("%v, %v, %d, %d, %d", e, err, b.Len(), b.Point(), b.Mark())
	}
	_, err = b.Insert('x', 'y')
	if err != api.OK || b.Len() != api.MaxLine || b.Point() != 9 || b.Mark() != 11 {
		t.Errorf("%v, %d, %d, %d", err, b.Len(), b.Point(), b.Mark())
	}
	_, err = b.Insert('x')
	wantErr(t, "Insert into a full line", err, api.ErrLong)
	_, err = b.Insert()
	wantErr(t, "Insert of nothing into a full line", err, api.OK)
}

// TestDelete: P7.2 (Delete), the example and the edges.
func TestDelete(t *testing.T) {
	b := must(t, "abhello", 2, 5)
	e, err := b.Delete(1, 4)
	wantErr(t, "Delete", err, api.OK)
	wantEdit(t, "Delete", e, edit(1, "bhe", ""))
	wantLook(t, "Delete", b, "allo@1,2")
	e, err = b.Delete(3, 9)
	if err != api.ErrPlace || !noEdit(e) {
		t.Errorf("Delete(3, 9): %v, %v", e, err)
	}
	wantLook(t, "Delete(3, 9)", b, "allo@1,2")
	e, err = b.Delete(4, 4)
	wantErr(t, "Delete of nothing", err, api.OK)
	wantEdit(t, "Delete of nothing", e, edit(4, "", ""))
	wantLook(t, "Delete of nothing", b, "allo@1,2")
	e, err = b.Delete(0, 4)
	wantErr(t, "Delete of all", err, api.OK)
	wantEdit(t, "Delete of all", e, edit(0, "allo", ""))
	wantLook(t, "Delete of all", b, "@0,0")
	_, err = b.Delete(0, 1)
	wantErr(t, "Delete in an empty line", err, api.ErrPlace)
}

// TestApply: P7.3 (Apply).
func TestApply(t *testing.T) {
	for _, c := range []struct {
		e    api.Edit
		err  api.Errno
		want string
	}{
		{edit(0, "zz", ""), api.ErrEdit, "allo@1,2"},
		{edit(1, "ll", "x"), api.OK, "axo@2,1"},
		{edit(2, "lo", "xyz"), api.OK, "alxyz@1,2"},
		{edit(0, "", "xy"), api.OK, "xyallo@3,4"},
		{edit(1, "", "xy"), api.OK, "axyllo@3,4"},
		{edit(2, "", "xy"), api.OK, "alxylo@1,2"},
		{edit(4, "", "xy"), api.OK, "alloxy@1,2"},
		{edit(4, "", ""), api.OK, "allo@1,2"},
		{edit(1, "", ""), api.OK, "allo@1,2"},
		{edit(0, "allo", ""), api.OK, "@0,0"},
		{edit(0, "all", "all"), api.OK, "allo@3,0"},
		{edit(0, "allo!", ""), api.ErrEdit, "allo@1,2"},
		{edit(4, "o", ""), api.ErrEdit, "allo@1,2"},
		{edit(3, "oo", "x"), api.ErrEdit, "allo@1,2"},
		{edit(3, "l", "x"), api.ErrEdit, "allo@1,2"},
		{edit(1, "lol", "x"), api.ErrEdit, "allo@1,2"},
		{edit(5, "", ""), api.ErrPlace, "allo@1,2"},
		{edit(-1, "", "x"), api.ErrPlace, "allo@1,2"},
		{edit(-1, "a", "x"), api.ErrPlace, "allo@1,2"},
		{edit(5, "zz", "x"), api.ErrPlace, "allo@1,2"},
		{edit(math.MaxInt, "zz", "x"), api.ErrPlace, "allo@1,2"},
		{edit(math.MinInt, "zz", "x"), api.ErrPlace, "allo@1,2"},
	} {
		b := must(t, "allo", 1, 2)
		if err := b.Apply(c.e); err != c.err {
			t.Errorf("Apply of %v: %v, not %v", c.e, err, c.err)
		}
		if got := look(b); got != c.want {
			t.Errorf("Apply of %v: %s, not %s", c.e, got, c.want)
		}
	}
}

// TestApplyLong: ErrLong comes last.
func TestApplyLong(t *testing.T) {
	full := fullLine()
	long := make([]rune, api.MaxLine+1)
	for _, c := range []struct {
		e    api.Edit
		want api.Errno
	}{
		{api.Edit{At: 1024, Ins: []rune{'x'}}, api.ErrLong},
		{api.Edit{At: 9, Del: full[9:10], Ins: []rune{'x', 'y'}}, api.ErrLong},
		{api.Edit{At: 0, Del: full, Ins: long}, api.ErrLong},
		{api.Edit{At: 9, Del: full[8:10], Ins: long}, api.ErrEdit},
		{api.Edit{At: 0, Del: long, Ins: long}, api.ErrEdit},
		{api.Edit{At: 1025, Del: full[8:10], Ins: long}, api.ErrPlace},
		{api.Edit{At: 1025, Ins: long}, api.ErrPlace},
	} {
		b := with(t, full, 3, 5)
		wantErr(t, "Apply", b.Apply(c.e), c.want)
		if !slices.Equal(b.Text(), full) || b.Point() != 3 || b.Mark() != 5 {
			t.Error("an error has an effect")
		}
	}
	b := with(t, full, 3, 5)
	wantErr(t, "Apply", b.Apply(api.Edit{At: 9, Del: full[9:11], Ins: []rune{'x', 'y'}}), api.OK)
	if !slices.Equal(b.Text(), slices.Concat(full[:9], []rune("xy"), full[11:])) {
		t.Error("another text")
	}
}

// TestReverse: P7.3 (Reverse).
func TestReverse(t *testing.T) {
	for _, e := range []api.Edit{{}, edit(3, "ab", "xyz"), edit(-7, "", "x"), edit(math.MaxInt, "a", ""), {At: 1, Del: oddRunes, Ins: fullLine()}, {Ins: make([]rune, 5000)}} {
		r := Reverse(e)
		wantEdit(t, "Reverse", r, api.Edit{At: e.At, Del: e.Ins, Ins: e.Del})
		wantEdit(t, "Reverse twice", Reverse(r), e)
	}
	b := must(t, "allo", 1, 2)
	e := edit(1, "ll", "xyz")
	wantErr(t, "Apply", b.Apply(e), api.OK)
	if string(b.Text()) != "axyzo" {
		t.Error(look(b))
	}
	wantErr(t, "Apply of Reverse", b.Apply(Reverse(e)), api.OK)
	if string(b.Text()) != "allo" {
		t.Error(look(b))
	}
}

// TestMove: P7.4 (Move).
func TestMove(t *testing.T) {
	b := must(t, "abc", 3, 1)
	for at := range 4 {
		wantErr(t, "Move", b.Move(at), api.OK)
		wantLook(t, "Move", b, "abc@"+strconv.Itoa(at)+",1")
	}
	b.Move(2)
	for _, at := range append([]int{4, 5}, farPlaces...) {
		wantErr(t, "Move", b.Move(at), api.ErrPlace)
		wantLook(t, "Move", b, "abc@2,1")
	}
	b = must(t, "", 0, -1)
	wantErr(t, "Move in an empty line", b.Move(0), api.OK)
	wantErr(t, "Move in an empty line", b.Move(1), api.ErrPlace)
	b = with(t, fullLine(), 0, -1)
	wantErr(t, "Move to the end", b.Move(api.MaxLine), api.OK)
	if b.Point() != api.MaxLine {
		t.Error(b.Point())
	}
}

// TestSetMark: P7.4 (SetMark).
func TestSetMark(t *testing.T) {
	b := must(t, "abc", 3, -1)
	for at := range 4 {
		wantErr(t, "SetMark", b.SetMark(at), api.OK)
		wantLook(t, "SetMark", b, "abc@3,"+strconv.Itoa(at))
	}
	for _, at := range append([]int{4, 5}, farPlaces...) {
		if at == -1 {
			continue
		}
		wantErr(t, "SetMark", b.SetMark(at), api.ErrPlace)
		wantLook(t, "SetMark", b, "abc@3,3")
	}
	for range 2 {
		wantErr(t, "SetMark(-1)", b.SetMark(-1), api.OK)
		wantLook(t, "SetMark(-1)", b, "abc@3,-1")
	}
	b = must(t, "", 0, -1)
	wantErr(t, "SetMark in an empty line", b.SetMark(0), api.OK)
	wantLook(t, "SetMark in an empty line", b, "@0,0")
	wantErr(t, "SetMark in an empty line", b.SetMark(1), api.ErrPlace)
}

// TestSwap: P7.4 (Swap).
func TestSwap(t *testing.T) {
	b := must(t, "allo", 1, 2)
	wantErr(t, "Swap", b.Swap(), api.OK)
	wantLook(t, "Swap", b, "allo@2,1")
	wantErr(t, "Swap", b.Swap(), api.OK)
	wantLook(t, "Swap", b, "allo@1,2")
	b.SetMark(0)
	wantErr(t, "Swap with the mark 0", b.Swap(), api.OK)
	wantLook(t, "Swap with the mark 0", b, "allo@0,1")
	b.SetMark(-1)
	wantErr(t, "Swap without a mark", b.Swap(), api.ErrBell)
	wantLook(t, "Swap without a mark", b, "allo@0,-1")
}

// TestLine: P7.4 (Line, Text, Len, Point, Mark), wherever the line was edited last.
func TestLine(t *testing.T) {
	for at := range 7 {
		b := must(t, "abcdef", at, 6)
		b.Insert('x')
		want := "abcdef"[:at] + "x" + "abcdef"[at:]
		mark := 7
		if at == 6 {
			mark = 6
		}
		l := b.Line()
		if string(l.Text) != want || l.Point != at+1 || l.Mark != mark {
			t.Errorf("Line: %s", shown(l))
		}
		if string(b.Text()) != want || b.Len() != 7 || b.Point() != at+1 || b.Mark() != mark {
			t.Errorf("%s, %d, %d, %d", string(b.Text()), b.Len(), b.Point(), b.Mark())
		}
	}
	l := must(t, "", 0, -1).Line()
	if len(l.Text) != 0 || l.Point != 0 || l.Mark != -1 {
		t.Errorf("an empty line: %v", l)
	}
}

// TestZeroObjects: R5; ErrMade comes first.
func TestZeroObjects(t *testing.T) {
	for _, b := range []*Buffer{nil, {}} {
		for _, at := range []int{0, 1, -1, math.MaxInt} {
			e1, err1 := b.Insert(make([]rune, max(at, 0)%5000)...)
			e2, err2 := b.Delete(at, at)
			e3, err3 := b.Replace(at, 0, 'x')
			if err1 != api.ErrMade || err2 != api.ErrMade || err3 != api.ErrMade || !noEdit(e1) || !noEdit(e2) || !noEdit(e3) {
				t.Error("Insert, Delete or Replace", at)
			}
			if b.Apply(edit(at, "a", "")) != api.ErrMade || b.Apply(api.Edit{At: at}) != api.ErrMade || b.Move(at) != api.ErrMade || b.SetMark(at) != api.ErrMade {
				t.Error("Apply, Move or SetMark", at)
			}
		}
		_, err := b.Insert(make([]rune, api.MaxLine+1)...)
		if err != api.ErrMade || b.Swap() != api.ErrMade {
			t.Error("Insert or Swap")
		}
		if l := b.Line(); l.Text != nil || l.Point != 0 || l.Mark != 0 {
			t.Error("Line", l)
		}
		if b.Text() != nil || b.Len() != 0 || b.Point() != 0 || b.Mark() != 0 || b.Clone() != nil {
			t.Error("Text, Len, Point, Mark or Clone")
		}
		if b != nil && *b != (Buffer{}) {
			t.Error("a call had an effect")
		}
	}
}

// TestClone: P7.4 (Clone).
func TestClone(t *testing.T) {
	b := must(t, "abcdef", 6, -1)
	b.Move(3)
	b.Insert('x')
	b.SetMark(1)
	c := b.Clone()
	wantLook(t, "the clone", c, "abcxdef@4,1")
	c.Insert('y')
	c.SetMark(-1)
	wantLook(t, "the clone", c, "abcxydef@5,-1")
	wantLook(t, "the first one", b, "abcxdef@4,1")
	b.Delete(0, 6)
	b.Swap()
	wantLook(t, "the first one", b, "f@0,0")
	wantLook(t, "the clone", c, "abcxydef@5,-1")
	wantLook(t, "a clone's clone", c.Clone().Clone(), "abcxydef@5,-1")
	wantErr(t, "Move of a clone", c.Clone().Move(8), api.OK)
	empty := must(t, "", 0, -1).Clone()
	wantLook(t, "the clone of an empty one", empty, "@0,-1")
	if _, err := empty.Insert('a'); err != api.OK {
		t.Error(err)
	}
}

func spoil(lists ...[]rune) {
	for _, l := range lists {
		for i := range l[:cap(l)] {
			l[:cap(l)][i] = '#'
		}
	}
}

// TestOwnership: R3; arguments are neither changed nor kept, and results belong to the caller.
func TestOwnership(t *testing.T) {
	l := []rune("abc")
	b, _ := New(l...)
	spoil(l)
	wantLook(t, "New", b, "abc@3,-1")
	ins := []rune("xyz")[:2]
	e, _ := b.Replace(1, 2, ins...)
	if string(ins[:3]) != "xyz" {
		t.Error("Replace changes its argument")
	}
	spoil(ins)
	wantEdit(t, "Replace", e, edit(1, "b", "xy"))
	wantLook(t, "Replace", b, "axyc@4,-1")
	spoil(e.Del, e.Ins)
	wantLook(t, "Replace", b, "axyc@4,-1")
	e = edit(1, "xy", "pq")
	b.Apply(e)
	wantEdit(t, "the argument of Apply", e, edit(1, "xy", "pq"))
	r := Reverse(e)
	spoil(e.Del, e.Ins)
	wantEdit(t, "Reverse", r, edit(1, "pq", "xy"))
	wantLook(t, "Apply", b, "apqc@4,-1")
	spoil(b.Text(), b.Line().Text)
	wantLook(t, "Text", b, "apqc@4,-1")
	text, line := b.Text(), b.Line()
	b.Delete(0, 3)
	if string(text) != "apqc" || string(line.Text) != "apqc" {
		t.Error("a result changes")
	}
	e, _ = b.Insert(b.Text()...)
	spoil(text, line.Text)
	wantEdit(t, "Insert", e, edit(1, "", "c"))
}

// TestOwnershipReverse: no two lists of an answer share memory, also where those of the argument do.
func TestOwnershipReverse(t *testing.T) {
	l := []rune("abcdef")
	r := Reverse(api.Edit{Del: l[:3], Ins: l[1:4]})
	spoil(r.Del)
	if string(l) != "abcdef" || string(r.Ins) != "abc" {
		t.Error(string(l), string(r.Ins))
	}
	b := must(t, "abcdef", 0, -1)
	part := []rune("bcd")
	wantErr(t, "Apply", b.Apply(api.Edit{At: 1, Del: part, Ins: part[1:]}), api.OK)
	wantLook(t, "Apply", b, "acdef@0,-1")
}

// TestExamples: the chapter's last ones.
func TestExamples(t *testing.T) {
	b, _ := New('a', 'b')
	b.Insert('c')
	wantLook(t, "Insert", b, "abc@3,-1")
	e, err := b.Delete(0, 1)
	wantErr(t, "Delete", err, api.OK)
	wantEdit(t, "Delete", e, edit(0, "a", ""))
	wantLook(t, "Delete", b, "bc@2,-1")
}

// TestReversal: P7.6, for each change of a short line, and of a full one.
func TestReversal(t *testing.T) {
	for _, line := range []string{"", "a", "abcab", strings.Repeat("x", api.MaxLine)} {
		places := []int{0, 1, 2, 3, 4, 5, len(line) / 2, len(line) - 1, len(line)}
		for _, from := range places {
			for _, to := range places {
				for _, ins := range []string{"", "a", "b", "xyz", line} {
					checkReversal(t, line, from, to, ins)
				}
			}
		}
	}
}

func checkReversal(t *testing.T, line string, from, to int, ins string) {
	t.Helper()
	b := must(t, line, 0, -1)
	before := b.Clone()
	e, err := b.Replace(from, to, []rune(ins)...)
	if err != api.OK {
		return
	}
	after := string(b.Text())
	if before.Apply(e) != api.OK || string(before.Text()) != after {
		t.Errorf("Apply of %v: %s, not %s", e, string(before.Text()), after)
	}
	if b.Apply(Reverse(e)) != api.OK || string(b.Text()) != line {
		t.Errorf("Apply of the Reverse of %v: %s, not %s", e, string(b.Text()), line)
	}
}
