package undo

import (
	"iter"
	"math"
	"strconv"
	"strings"
	"testing"

	"lanyard/api"
)

// add adds edits that put each rune of text at the place of its index.
func add(t *testing.T, l *List, text string) {
	t.Helper()
	for i, r := range []rune(text) {
		wantErr(t, "Add of "+string(r), l.Add(edit(i, "", string(r))), api.OK)
	}
}

// made returns a list after these steps: ( and ) are Begin and End, u is Undo, all other runes are inserted at 0.
func made(t *testing.T, steps string) *List {
	t.Helper()
	l := New()
	do(t, l, steps)
	return l
}

func do(t *testing.T, l *List, steps string) {
	t.Helper()
	for _, r := range steps {
		err := api.OK
		switch r {
		case '(':
			err = l.Begin()
		case ')':
			err = l.End()
		case 'u':
			_, err = l.Undo()
		default:
			err = l.Add(edit(0, "", string(r)))
		}
		wantErr(t, string(r)+" of "+steps, err, api.OK)
	}
}

// shown returns what edits remove and insert: "-a +b".
func shown(edits []api.Edit) string {
	var parts []string
	for _, e := range edits {
		part := ""
		if len(e.Del) > 0 {
			part = "-" + string(e.Del)
		}
		if len(e.Ins) > 0 {
			part += "+" + string(e.Ins)
		}
		parts = append(parts, part)
	}
	return strings.Join(parts, " ")
}

// look returns the groups of l, the last one first, and the number of open ones: "+b +c/+a,1".
func look(l *List) string {
	return shownGroups(l.Groups()) + "," + strconv.Itoa(l.Open())
}

func shownGroups(groups iter.Seq[[]api.Edit]) string {
	var parts []string
	for g := range groups {
		parts = append(parts, shown(g))
	}
	return strings.Join(parts, "/")
}

func wantLook(t *testing.T, what string, l *List, want string) {
	t.Helper()
	if got := look(l); got != want {
		t.Errorf("%s: %s, not %s", what, got, want)
	}
}

func wantCounts(t *testing.T, what string, l *List, groups, edits, open int) {
	t.Helper()
	if l.Len() != groups || l.Edits() != edits || l.Open() != open {
		t.Errorf("%s: Len %d, Edits %d, Open %d, not %d, %d, %d", what, l.Len(), l.Edits(), l.Open(), groups, edits, open)
	}
}

func wantUndo(t *testing.T, l *List, want string) {
	t.Helper()
	got, err := l.Undo()
	if err != api.OK || shown(got) != want {
		t.Errorf("Undo: %s, %d, not %s", shown(got), err, want)
	}
}

func wantNoUndo(t *testing.T, l *List, want api.Errno) {
	t.Helper()
	if got, err := l.Undo(); got != nil || err != want {
		t.Errorf("Undo: %v, %d, not %d", got, err, want)
	}
}

// TestChapter: the examples within the chapter, in their order.
func TestChapter(t *testing.T) {
	l := New()
	wantErr(t, "Begin", l.Begin(), api.OK)
	wantCounts(t, "Begin", l, 0, 0, 1)
	add(t, l, "xy")
	wantErr(t, "End", l.End(), api.OK)
	wantErr(t, "another End", l.End(), api.ErrArg)

	l = New()
	wantErr(t, "Add", l.Add(edit(0, "", "a")), api.OK)
	l.Begin()
	wantErr(t, "Add", l.Add(edit(1, "", "b")), api.OK)
	wantErr(t, "Add", l.Add(edit(2, "", "c")), api.OK)
	wantErr(t, "End", l.End(), api.OK)
	wantCounts(t, "after End", l, 2, 3, 0)
	back, err := l.Undo()
	if err != api.OK || len(back) != 2 {
		t.Fatal(back, err)
	}
	wantEdit(t, "the first one", back[0], edit(2, "c", ""))
	wantEdit(t, "the second one", back[1], edit(1, "b", ""))
	wantCounts(t, "after Undo", l, 1, 1, 0)
	again := l.Clone()
	back = l.Revert()
	if len(back) != 1 {
		t.Fatal(back)
	}
	wantEdit(t, "Revert", back[0], edit(0, "a", ""))
	wantNoUndo(t, l, api.ErrBell)

	back, err = again.Undo()
	if err != api.OK || len(back) != 1 {
		t.Fatal(back, err)
	}
	wantEdit(t, "Undo", back[0], edit(0, "a", ""))
	wantNoUndo(t, again, api.ErrBell)
}

// TestNew: P8.3 (New); lists do not know of one another.
func TestNew(t *testing.T) {
	l, other := New(), New()
	wantCounts(t, "New", l, 0, 0, 0)
	wantLook(t, "New", l, ",0")
	wantErr(t, "End", l.End(), api.ErrArg)
	wantNoUndo(t, l, api.ErrBell)
	if l.Revert() != nil {
		t.Error("Revert")
	}
	do(t, l, "a(b")
	wantLook(t, "the other one", other, ",0")
}

// TestGrouping: P8.3 (Begin, End, Add), what becomes a group.
func TestGrouping(t *testing.T) {
	for _, c := range []struct {
		steps, want         string
		groups, edits, open int
	}{
		{"", ",0", 0, 0, 0},
		{"a", "+a,0", 1, 1, 0},
		{"ab", "+b/+a,0", 2, 2, 0},
		{"(", ",1", 0, 0, 1},
		{"()", ",0", 0, 0, 0},
		{"(((", ",3", 0, 0, 3},
		{"((()))", ",0", 0, 0, 0},
		{"(a)", "+a,0", 1, 1, 0},
		{"(ab)", "+a +b,0", 1, 2, 0},
		{"(ab", "+a +b,1", 1, 2, 1},
		{"(a)(b)", "+b/+a,0", 2, 2, 0},
		{"(ab)c", "+c/+a +b,0", 2, 3, 0},
		{"a(bc)d", "+d/+b +c/+a,0", 3, 4, 0},
		{"a(bc)(d", "+d/+b +c/+a,1", 3, 4, 1},
		{"a(bc)(", "+b +c/+a,1", 2, 3, 1},
		{"a()b", "+b/+a,0", 2, 2, 0},
		{"a()(b)", "+b/+a,0", 2, 2, 0},
		{"(a(b)c)d", "+d/+a +b +c,0", 2, 4, 0},
		{"(a(b)c(d)", "+a +b +c +d,1", 1, 4, 1},
		{"((a", "+a,2", 1, 1, 2},
		{"((a)", "+a,1", 1, 1, 1},
		{"((a)b)", "+a +b,0", 1, 2, 0},
		{"(()a", "+a,1", 1, 1, 1},
		{"(()a)", "+a,0", 1, 1, 0},
		{"(a()b)", "+a +b,0", 1, 2, 0},
		{"(((a)b)c", "+a +b +c,1", 1, 3, 1},
		{"(((a)b)c)d(e", "+e/+d/+a +b +c,1", 3, 5, 1},
		{"(a((b", "+a +b,3", 1, 2, 3},
	} {
		l := made(t, c.steps)
		wantLook(t, c.steps, l, c.want)
		wantCounts(t, c.steps, l, c.groups, c.edits, c.open)
	}
}

// TestEnd: P8.3 (End), its error, which changes nothing.
func TestEnd(t *testing.T) {
	for _, steps := range []string{"", "a", "ab", "()", "(a)", "(a)b", "((a)b)", "a(bu", "(a)(bc)u"} {
		l := made(t, steps)
		before := look(l)
		for range 3 {
			wantErr(t, "End after "+steps, l.End(), api.ErrArg)
			wantLook(t, "End after "+steps, l, before)
		}
	}
	// An End too many does not close a group that is opened later.
	l := made(t, "a")
	l.End()
	do(t, l, "(b")
	wantLook(t, "after an End too many", l, "+b/+a,1")
	l = New()
	for range 1000 {
		l.Begin()
	}
	for i := range 1000 {
		wantCounts(t, "many open groups", l, 0, 0, 1000-i)
		wantErr(t, "End", l.End(), api.OK)
	}
	wantErr(t, "End", l.End(), api.ErrArg)
}

// badEdits are edits that Add does not accept.
var badEdits = []api.Edit{
	{}, {At: 3}, {At: 3, Del: []rune{}, Ins: []rune{}}, {At: math.MaxInt}, {At: -1},
	{At: -1, Ins: []rune{'a'}}, {At: -1, Del: []rune{'a'}}, {At: math.MinInt, Del: []rune{'a'}, Ins: []rune{'b'}},
}

// TestAddErrors: P8.3 (Add), what is no edit, ahead of a full list; nothing changes.
func TestAddErrors(t *testing.T) {
	for _, steps := range []string{"", "a", "(", "(a", "a(b)", "a(bc"} {
		l := made(t, steps)
		before := look(l)
		for _, e := range badEdits {
			wantErr(t, "Add after "+steps, l.Add(e), api.ErrArg)
			wantLook(t, "Add after "+steps, l, before)
		}
		wantErr(t, "Add of an edit after that", l.Add(edit(0, "", "z")), api.OK)
		other := made(t, steps+"z")
		wantLook(t, "Add of an edit after that", l, look(other))
	}
	l := full(t, "")
	for _, e := range badEdits {
		wantErr(t, "Add to a full list", l.Add(e), api.ErrArg)
	}
}

// TestAdd: P8.3 (Add), what it accepts, which comes back as it was.
func TestAdd(t *testing.T) {
	for _, e := range []api.Edit{
		edit(0, "a", ""), edit(0, "", "a"), edit(0, "a", "a"), edit(math.MaxInt, "a", "b"),
		{At: 5, Del: oddRunes, Ins: oddRunes[3:]}, {At: 1, Ins: counted(5000)}, {At: 1, Del: counted(5000)},
	} {
		l := New()
		wantErr(t, "Add", l.Add(e), api.OK)
		for g := range l.Groups() {
			if len(g) != 1 {
				t.Fatal(g)
			}
			wantEdit(t, "Groups", g[0], e)
		}
		back, err := l.Undo()
		if err != api.OK || len(back) != 1 {
			t.Fatal(back, err)
		}
		wantEdit(t, "Undo", back[0], api.Edit{At: e.At, Del: e.Ins, Ins: e.Del})
	}
}

// full returns a list after these steps, and after as many calls of Add as it has room for.
func full(t *testing.T, steps string) *List {
	t.Helper()
	l := made(t, steps)
	for i := l.Edits(); i < api.MaxUndo; i++ {
		if err := l.Add(edit(i, "", "x")); err != api.OK {
			t.Fatalf("Add of edit %d returns %d", i, err)
		}
	}
	return l
}

// TestFull: P8.3 (Add), the greatest number of edits, in groups of their own, in a closed group and in open ones.
func TestFull(t *testing.T) {
	extra := edit(0, "", "y")
	l := full(t, "")
	wantCounts(t, "a full list", l, api.MaxUndo, api.MaxUndo, 0)
	wantErr(t, "Add to a full list", l.Add(extra), api.ErrLong)
	wantErr(t, "Begin of a full list", l.Begin(), api.OK)
	wantErr(t, "Add to a group of a full list", l.Add(extra), api.ErrLong)
	wantErr(t, "End of a full list", l.End(), api.OK)
	wantCounts(t, "a full list", l, api.MaxUndo, api.MaxUndo, 0)
	wantUndo(t, l, "-x")
	wantErr(t, "Add after Undo", l.Add(extra), api.OK)
	wantErr(t, "Add to a full list", l.Add(extra), api.ErrLong)
	wantUndo(t, l, "-y")

	l = full(t, "ab((c")
	wantCounts(t, "a full list", l, 3, api.MaxUndo, 2)
	wantErr(t, "Add to a full list", l.Add(extra), api.ErrLong)
	wantCounts(t, "a full list", l, 3, api.MaxUndo, 2)
	c := l.Clone()
	wantErr(t, "Add to the clone of a full list", c.Add(extra), api.ErrLong)
	if back := c.Revert(); len(back) != api.MaxUndo {
		t.Error(len(back))
	}
	wantErr(t, "Add after Revert", c.Add(extra), api.OK)
	c = l.Clone()
	c.Clear()
	wantErr(t, "Add after Clear", c.Add(extra), api.OK)
	back, err := l.Undo()
	if err != api.OK || len(back) != api.MaxUndo-2 || back[0].At != api.MaxUndo-1 {
		t.Error(err, len(back))
	}
	wantLook(t, "a list that was full", l, "+b/+a,0")
	wantErr(t, "Add after Undo", l.Add(extra), api.OK)
}

// TestUndo: P8.4 (Undo), what it returns and leaves.
func TestUndo(t *testing.T) {
	for _, c := range []struct{ steps, want, left string }{
		{"a", "-a", ",0"},
		{"ab", "-b", "+a,0"},
		{"a(bcd)", "-d -c -b", "+a,0"},
		{"(ab)c", "-c", "+a +b,0"},
		{"(ab)cu", "-b -a", ",0"},
		{"a(bc", "-c -b", "+a,0"},
		{"a((((b(c", "-c -b", "+a,0"},
		{"a(", "-a", ",0"},
		{"ab(((", "-b", "+a,0"},
		{"(a)(b", "-b", "+a,0"},
		{"a(b(c)d)()", "-d -c -b", "+a,0"},
		{"a(bcude", "-e", "+d/+a,0"},
		{"a(u(b", "-b", ",0"},
	} {
		l := made(t, c.steps)
		wantUndo(t, l, c.want)
		wantLook(t, "Undo after "+c.steps, l, c.left)
		wantErr(t, "End after Undo", l.End(), api.ErrArg)
		// What comes next joins nothing.
		do(t, l, "y")
		wantLook(t, "Add after Undo after "+c.steps, l, strings.Replace("+y/"+c.left, "/,", ",", 1))
	}
	l := New()
	l.Add(edit(7, "ab", "xyz"))
	back, _ := l.Undo()
	wantEdit(t, "Undo", back[0], edit(7, "xyz", "ab"))
}

// TestUndoNothing: P8.4 (Undo) and R2: with ErrBell nothing changes, and so groups remain open.
func TestUndoNothing(t *testing.T) {
	for _, c := range []struct {
		steps string
		open  int
	}{{"", 0}, {"au", 0}, {"(a)u", 0}, {"(au", 0}, {"()", 0}, {"(", 1}, {"((()", 2}, {"au(", 1}} {
		l := made(t, c.steps)
		for range 2 {
			wantNoUndo(t, l, api.ErrBell)
			wantCounts(t, "Undo after "+c.steps, l, 0, 0, c.open)
		}
		do(t, l, "xy")
		want := "+y/+x"
		if c.open > 0 {
			want = "+x +y"
		}
		wantLook(t, "Add after "+c.steps, l, want+","+strconv.Itoa(c.open))
	}
}

// TestRevert: P8.4 (Revert).
func TestRevert(t *testing.T) {
	for _, c := range []struct{ steps, want string }{
		{"", ""}, {"a", "-a"}, {"ab", "-b -a"}, {"(ab)c", "-c -b -a"}, {"a(bc)(de)", "-e -d -c -b -a"},
		{"a(bc", "-c -b -a"}, {"a(b(c(", "-c -b -a"}, {"a((", "-a"}, {"((", ""}, {"abu", "-a"}, {"()", ""}, {"a(bu", "-a"},
	} {
		l := made(t, c.steps)
		if got := shown(l.Revert()); got != c.want {
			t.Errorf("Revert after %s: %s, not %s", c.steps, got, c.want)
		}
		wantCounts(t, "Revert after "+c.steps, l, 0, 0, 0)
		wantNoUndo(t, l, api.ErrBell)
		wantErr(t, "End after Revert", l.End(), api.ErrArg)
		if again := l.Revert(); again != nil {
			t.Error("another Revert:", shown(again))
		}
		do(t, l, "xy")
		wantLook(t, "Add after Revert", l, "+y/+x,0")
	}
	l := New()
	l.Add(edit(7, "ab", "xyz"))
	l.Add(edit(3, "c", ""))
	back := l.Revert()
	wantEdit(t, "Revert", back[0], edit(3, "", "c"))
	wantEdit(t, "Revert", back[1], edit(7, "xyz", "ab"))
}

// TestClear: P8.4 (Clear).
func TestClear(t *testing.T) {
	for _, steps := range []string{"", "a", "(ab)c", "a(bc", "a((", "((", "abu"} {
		l := made(t, steps)
		for range 2 {
			l.Clear()
			wantCounts(t, "Clear after "+steps, l, 0, 0, 0)
			wantLook(t, "Clear after "+steps, l, ",0")
			wantNoUndo(t, l, api.ErrBell)
			wantErr(t, "End after Clear", l.End(), api.ErrArg)
		}
		do(t, l, "xy")
		wantLook(t, "Add after Clear", l, "+y/+x,0")
	}
}

// TestGroupsOnce: P8.4 (Groups) and R3, an iterator yields what there was when it was requested, may stop anywhere, and may be repeated.
func TestGroupsOnce(t *testing.T) {
	l := made(t, "a(bc)(d")
	groups := l.Groups()
	const want = "+d/+b +c/+a"
	do(t, l, "e)f")
	if got := shownGroups(groups); got != want {
		t.Errorf("after Add: %s", got)
	}
	do(t, l, "uuuxyz")
	if got := shownGroups(groups); got != want {
		t.Errorf("after Undo and Add: %s", got)
	}
	l.Clear()
	if got := shownGroups(groups); got != want {
		t.Errorf("after Clear: %s", got)
	}
	for stop := 1; stop <= 3; stop++ {
		n := 0
		for range groups {
			if n++; n == stop {
				break
			}
		}
		if n != stop {
			t.Errorf("%d, not %d", n, stop)
		}
		if got := shownGroups(groups); got != want {
			t.Errorf("after a stop at %d: %s", stop, got)
		}
	}
	pairs := 0
	for range groups {
		for range groups {
			pairs++
		}
	}
	if pairs != 9 {
		t.Error(pairs, "pairs")
	}
}

// TestGroupsMeanwhile: R3, what is done to a list while its groups are yielded.
func TestGroupsMeanwhile(t *testing.T) {
	l := made(t, "a(bc)d")
	got := ""
	for g := range l.Groups() {
		got += shown(g) + "/"
		l.Undo()
		do(t, l, "(x")
		l.Clear()
	}
	if got != "+d/+b +c/+a/" {
		t.Error(got)
	}
}

// TestClone: P8.4 (Clone), in every state; neither list sees what is done to the other one.
func TestClone(t *testing.T) {
	for _, steps := range []string{"", "a", "(ab)c", "a(bc", "a((", "a(b)(", "((a", "abcuu"} {
		l := made(t, steps)
		before := look(l)
		c := l.Clone()
		wantLook(t, "the clone after "+steps, c, before)
		wantCounts(t, "the clone after "+steps, c, l.Len(), l.Edits(), l.Open())
		do(t, l, "x")
		wantLook(t, "the clone", c, before)
		do(t, c, "y")
		wantLook(t, "the clone after y", c, strings.ReplaceAll(look(l), "x", "y"))
		wantLook(t, "the first one after x", l, look(made(t, steps+"x")))
		c.Begin()
		c.Undo()
		do(t, c, "pq")
		wantLook(t, "the first one", l, look(made(t, steps+"x")))
		after := look(c)
		l.Clear()
		wantLook(t, "the clone", c, after)
	}
	c := made(t, "a(b").Clone().Clone()
	do(t, c, "c)d")
	wantLook(t, "the clone of a clone", c, "+d/+b +c/+a,0")
}

// TestZeroObjects: R5; ErrMade comes first.
func TestZeroObjects(t *testing.T) {
	for _, l := range []*List{nil, {}} {
		wantErr(t, "Begin", l.Begin(), api.ErrMade)
		wantErr(t, "End", l.End(), api.ErrMade)
		for _, e := range append([]api.Edit{edit(0, "", "a")}, badEdits...) {
			wantErr(t, "Add", l.Add(e), api.ErrMade)
		}
		wantNoUndo(t, l, api.ErrMade)
		if l.Revert() != nil || l.Clone() != nil {
			t.Error("Revert or Clone")
		}
		l.Clear()
		wantErr(t, "Begin after Clear", l.Begin(), api.ErrMade)
		wantCounts(t, "a zero object", l, 0, 0, 0)
		for range l.Groups() {
			t.Error("Groups yields")
		}
		if l != nil && *l != (List{}) {
			t.Error("a call had an effect")
		}
	}
}

// TestOwnershipOfLists: R3, a list keeps no argument, and its results belong to the caller.
func TestOwnershipOfLists(t *testing.T) {
	l := New()
	del, ins := []rune("abcd")[:2], []rune("xyz")
	l.Begin()
	wantErr(t, "Add", l.Add(api.Edit{At: 1, Del: del, Ins: ins}), api.OK)
	wantErr(t, "Add", l.Add(api.Edit{At: 1, Del: ins, Ins: ins}), api.OK)
	if string(del[:4]) != "abcd" || string(ins) != "xyz" {
		t.Error("Add changes its argument")
	}
	spoil(del, ins)
	const want = "-ab+xyz -xyz+xyz,1"
	wantLook(t, "Add", l, want)
	c, groups := l.Clone(), l.Groups()
	for g := range groups {
		spoilEdits(t, g)
	}
	wantLook(t, "the first one", l, want)
	wantLook(t, "the clone", c, want)
	if got := shownGroups(groups); got+",1" != want {
		t.Error("a second time:", got)
	}
	back, _ := l.Undo()
	spoilEdits(t, back)
	wantLook(t, "the clone", c, want)
	spoilEdits(t, c.Clone().Revert())
	wantLook(t, "the clone", c, want)
	if got := shownGroups(groups); got+",1" != want {
		t.Error("a third time:", got)
	}
	wantUndo(t, c, "-xyz+xyz -xyz+ab")
}

// spoilEdits changes all that edits reach, list by list: what one of them reaches no other one does.
func spoilEdits(t *testing.T, edits []api.Edit) {
	t.Helper()
	for i, e := range edits {
		for _, l := range [][]rune{e.Del, e.Ins} {
			if strings.Contains(string(l), "#") {
				t.Error("two lists of one answer share memory")
			}
			spoil(l)
		}
		edits[i] = api.Edit{At: -9}
	}
	clear(edits[:cap(edits)])
}
