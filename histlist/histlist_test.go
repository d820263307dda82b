package histlist

import (
	"iter"
	"math"
	"slices"
	"strconv"
	"strings"
	"testing"

	"lanyard/api"
)

func wantErr(t *testing.T, what string, got, want api.Errno) {
	t.Helper()
	if got != want {
		t.Errorf("%s returns %d, not %d", what, got, want)
	}
}

// hist returns lines with these texts and the times 10, 20 and so on.
func hist(texts ...string) []api.HistLine {
	var l []api.HistLine
	for i, text := range texts {
		l = append(l, api.HistLine{Text: text, Time: int64(10 * (i + 1))})
	}
	return l
}

func from(t *testing.T, most int, texts ...string) *List {
	t.Helper()
	h, err := From(most, hist(texts...)...)
	wantErr(t, "From", err, api.OK)
	if h == nil {
		t.Fatal("From returns nothing")
	}
	return h
}

func shownLine(l api.HistLine) string { return l.Text + "@" + strconv.FormatInt(l.Time, 10) }

func shown(all iter.Seq2[int, api.HistLine]) string {
	var parts []string
	for i, l := range all {
		if i != len(parts) {
			return "line " + strconv.Itoa(i) + " is yielded as number " + strconv.Itoa(len(parts))
		}
		parts = append(parts, shownLine(l))
	}
	return strings.Join(parts, "|")
}

// look returns the lines of h, the number of the oldest one, and how many are kept: "b@20|c@30, 2, 2".
func look(h *List) string {
	all := shown(h.All())
	for i := range h.Len() {
		l, is := h.At(i)
		numbered, isNumber := h.Number(h.Base() + int64(i))
		if !is || !isNumber || l != numbered {
			return "At and Number of " + strconv.Itoa(i) + " are not one line"
		}
	}
	if count := strings.Count(all, "@"); count != h.Len() {
		return "All yields " + strconv.Itoa(count) + " lines of " + strconv.Itoa(h.Len())
	}
	return all + ", " + strconv.FormatInt(h.Base(), 10) + ", " + strconv.Itoa(h.Most())
}

func wantLook(t *testing.T, what string, h *List, want string) {
	t.Helper()
	if got := look(h); got != want {
		t.Errorf("%s: %s, not %s", what, got, want)
	}
}

// wantLine holds a line that was returned, and whether it was one, against a text like "a@10", or against "" and no line.
func wantLine(t *testing.T, what string, got api.HistLine, is bool, want string) {
	t.Helper()
	if is != (want != "") || is && shownLine(got) != want || !is && got != (api.HistLine{}) {
		t.Errorf("%s: %s, %v, not %s", what, shownLine(got), is, want)
	}
}

// wantOut holds what Replace or Remove returned against a text like "a@10", or against an error and no line.
func wantOut(t *testing.T, what string, got api.HistLine, err api.Errno, want string, wanted api.Errno) {
	t.Helper()
	wantErr(t, what, err, wanted)
	wantLine(t, what, got, err == api.OK, want)
}

func wantSearch(t *testing.T, h *List, from int, text string, back, begins bool, place, index int, is bool) {
	t.Helper()
	gotPlace, gotIndex, got := h.Search(from, text, back, begins)
	if gotPlace != place || gotIndex != index || got != is {
		t.Errorf("Search(%d, %q, %v, %v): %d, %d, %v, not %d, %d, %v", from, text, back, begins, gotPlace, gotIndex, got, place, index, is)
	}
}

func long(n int) string { return strings.Repeat("x", n) }

// numbered returns the texts of the numbers from first on, n of them.
func numbered(first, n int) []string {
	var texts []string
	for i := range n {
		texts = append(texts, strconv.Itoa(first+i))
	}
	return texts
}

// far are integers at the ends and around 0.
var far = []int{math.MinInt, math.MinInt + 1, math.MinInt32, -2, -1, math.MaxInt32, math.MaxInt32 + 1, math.MaxInt - 1, math.MaxInt}

// TestNumbers: the limits and errors that the chapter names.
func TestNumbers(t *testing.T) {
	if api.MaxHistory != 4096 || api.MaxText != 16384 {
		t.Error("a limit is another number")
	}
	if api.ErrArg != 1 || api.ErrMade != 2 || api.ErrLong != 3 || api.ErrNone != 4 || api.ErrBell != 6 {
		t.Error("an error is another number")
	}
}

// TestChapter: the examples of the chapter, in their order.
func TestChapter(t *testing.T) {
	h := from(t, 2, "a", "b", "cab")
	wantLook(t, "From", h, "b@20|cab@30, 2, 2")
	wantErr(t, "Add", h.Add(api.HistLine{Text: "a", Time: -1}), api.ErrArg)
	l, is := h.Number(3)
	wantLine(t, "Number", l, is, "cab@30")
	wantSearch(t, h, 9, "b", true, false, 1, 2, true)
	wantSearch(t, h, 0, "b", false, true, 0, 0, true)
	wantErr(t, "Stifle", h.Stifle(1), api.OK)
	wantLook(t, "Stifle", h, "cab@30, 3, 1")
	wantErr(t, "Stifle", h.Stifle(-1), api.ErrArg)

	h = from(t, 2, "a", "b", "c")
	wantLook(t, "From", h, "b@20|c@30, 2, 2")
	l, is = h.At(0)
	wantLine(t, "At", l, is, "b@20")
	l, is = h.Number(3)
	wantLine(t, "Number", l, is, "c@30")
	wantSearch(t, h, 1, "b", true, true, 0, 0, true)
	wantErr(t, "Stifle", h.Stifle(1), api.OK)
	wantLook(t, "Stifle", h, "c@30, 3, 1")
}

// TestMost: P10.1 (New, From, Stifle), how many lines a history may keep.
func TestMost(t *testing.T) {
	for _, most := range []int{0, 1, 2, 4095, 4096} {
		h, err := New(most)
		wantErr(t, "New", err, api.OK)
		wantLook(t, "New", h, ", 1, "+strconv.Itoa(most))
		h, err = From(most)
		wantErr(t, "From", err, api.OK)
		wantLook(t, "From", h, ", 1, "+strconv.Itoa(most))
		wantErr(t, "Stifle", h.Stifle(4096-most), api.OK)
		wantLook(t, "Stifle", h, ", 1, "+strconv.Itoa(4096-most))
	}
	for _, most := range append(far, 4097, 5000) {
		h, err := New(most)
		wantErr(t, "New", err, api.ErrArg)
		if h != nil {
			t.Error("New returns a history with", err)
		}
		h, err = From(most, hist("a")...)
		wantErr(t, "From", err, api.ErrArg)
		if h != nil {
			t.Error("From returns a history with", err)
		}
		h = from(t, 3, "a", "b")
		wantErr(t, "Stifle", h.Stifle(most), api.ErrArg)
		wantLook(t, "Stifle", h, "a@10|b@20, 1, 3")
	}
}

// TestAdd: P10.1 (Add, From), lines of all kinds, in order.
func TestAdd(t *testing.T) {
	h, _ := New(4)
	wantErr(t, "Add", h.Add(), api.OK)
	wantLook(t, "Add of nothing", h, ", 1, 4")
	odd := []api.HistLine{{}, {Text: "a\x00\n\xff\xe4\xb8", Time: math.MaxInt64}, {Text: "a"}, {Text: "a", Time: 1}}
	wantErr(t, "Add", h.Add(odd...), api.OK)
	for i, want := range odd {
		if got, is := h.At(i); !is || got != want {
			t.Error("At", i, got, is)
		}
	}
	wantErr(t, "Add", h.Add(), api.OK)
	wantErr(t, "Add", h.Add(hist("b", "c")...), api.OK)
	wantLook(t, "Add", h, "a@0|a@1|b@10|c@20, 3, 4")
	for most := range 8 {
		texts := numbered(1, 6)
		one := from(t, most)
		for i, l := range hist(texts...) {
			wantErr(t, "Add", one.Add(l), api.OK)
			if kept := min(i+1, most); one.Len() != kept || one.Base() != int64(i+2-kept) {
				t.Error("Add one by one: Len", one.Len(), "Base", one.Base(), "of", most)
			}
		}
		wantLook(t, "From", from(t, most, texts...), look(one))
	}
}

// TestLimits: P10.1 (Add, From) and P10.2 (Replace), the lines that are not valid; R2, which error is first, and that nothing changes.
func TestLimits(t *testing.T) {
	longest, longer := api.HistLine{Text: long(16384)}, api.HistLine{Text: long(16385), Time: 5}
	early, earliest := api.HistLine{Text: "b", Time: -1}, api.HistLine{Time: math.MinInt64}
	both := api.HistLine{Text: long(16385), Time: -1}
	ok := api.HistLine{Text: "c"}
	for _, c := range []struct {
		l   []api.HistLine
		err api.Errno
	}{
		{[]api.HistLine{longest}, api.OK},
		{[]api.HistLine{longest, ok, longest}, api.OK},
		{[]api.HistLine{longer}, api.ErrLong},
		{[]api.HistLine{{Text: long(1 << 20)}}, api.ErrLong},
		{[]api.HistLine{early}, api.ErrArg},
		{[]api.HistLine{earliest}, api.ErrArg},
		{[]api.HistLine{both}, api.ErrLong},
		{[]api.HistLine{ok, ok, longer}, api.ErrLong},
		{[]api.HistLine{ok, ok, early}, api.ErrArg},
		{[]api.HistLine{early, longer}, api.ErrLong},
		{[]api.HistLine{longer, early}, api.ErrLong},
		{[]api.HistLine{early, ok, ok, ok, ok, ok, longer}, api.ErrLong},
		{[]api.HistLine{longest, early, ok, ok, ok, ok}, api.ErrArg},
	} {
		for _, most := range []int{0, 3} {
			h := from(t, most, "a", "b")
			before := look(h)
			wantErr(t, "Add", h.Add(c.l...), c.err)
			if c.err != api.OK {
				wantLook(t, "Add", h, before)
			} else if h.Len() != min(2+len(c.l), most) {
				t.Error("Add: Len", h.Len())
			}
			h, err := From(most, c.l...)
			wantErr(t, "From", err, c.err)
			if (h != nil) != (c.err == api.OK) {
				t.Error("From returns", h, "with", err)
			}
		}
		h, err := From(-1, c.l...)
		wantErr(t, "From", err, api.ErrArg)
		if h != nil {
			t.Error("From returns a history with", err)
		}
		if len(c.l) == 1 {
			wantReplaced(t, c.l[0], c.err)
		}
	}
}

// wantReplaced holds Replace by l against an error, and a place that there is not against ErrNone.
func wantReplaced(t *testing.T, l api.HistLine, err api.Errno) {
	t.Helper()
	h := from(t, 3, "a", "b")
	for _, i := range append(far, 2, 3) {
		got, none := h.Replace(i, l)
		wantOut(t, "Replace", got, none, "", api.ErrNone)
	}
	before := look(h)
	got, gotErr := h.Replace(1, l)
	if err != api.OK {
		wantOut(t, "Replace", got, gotErr, "", err)
		wantLook(t, "Replace", h, before)
		return
	}
	wantOut(t, "Replace", got, gotErr, "b@20", api.OK)
	if now, _ := h.At(1); now != l {
		t.Error("Replace by", len(l.Text), l.Time, "makes", len(now.Text), now.Time)
	}
}

// TestPlaces: P10.2 (Len, Base, Most, At, Number), every place and number, and those that there are not.
func TestPlaces(t *testing.T) {
	for _, c := range []struct{ most, lines int }{{0, 0}, {0, 5}, {5, 0}, {5, 1}, {5, 5}, {5, 6}, {5, 23}, {1, 9}, {4096, 100}, {4096, 4097}} {
		texts := numbered(1, c.lines)
		h := from(t, c.most, texts...)
		count := min(c.most, c.lines)
		base := c.lines - count + 1
		if h.Len() != count || h.Base() != int64(base) || h.Most() != c.most {
			t.Error("Len", h.Len(), "Base", h.Base(), "Most", h.Most(), "of", c)
		}
		for i := range count {
			want := strconv.Itoa(base+i) + "@" + strconv.Itoa(10*(base+i))
			l, is := h.At(i)
			wantLine(t, "At", l, is, want)
			l, is = h.Number(int64(base + i))
			wantLine(t, "Number", l, is, want)
		}
		for _, i := range append(far, count, count+1) {
			l, is := h.At(i)
			wantLine(t, "At "+strconv.Itoa(i), l, is, "")
		}
		for _, i := range append(far, 0, base-1, base+count, base+count+1) {
			l, is := h.Number(int64(i))
			wantLine(t, "Number "+strconv.Itoa(i), l, is, "")
		}
	}
}

// TestReplace: P10.2 (Replace), each place.
func TestReplace(t *testing.T) {
	h := from(t, 3, "a", "b", "c", "d")
	for i, want := range []string{"b@20", "c@30", "d@40"} {
		got, err := h.Replace(i, api.HistLine{Text: strconv.Itoa(i), Time: int64(i)})
		wantOut(t, "Replace", got, err, want, api.OK)
	}
	wantLook(t, "Replace", h, "0@0|1@1|2@2, 2, 3")
	got, err := h.Replace(1, api.HistLine{})
	wantOut(t, "Replace", got, err, "1@1", api.OK)
	wantLook(t, "Replace", h, "0@0|@0|2@2, 2, 3")
	h, _ = New(0)
	got, err = h.Replace(0, api.HistLine{})
	wantOut(t, "Replace", got, err, "", api.ErrNone)
}

// TestRemove: P10.2 (Remove), each place; the following lines move up, and later ones are added behind them.
func TestRemove(t *testing.T) {
	for _, c := range []struct {
		i             int
		out, is, then string
	}{
		{0, "b@20", "c@30|d@40, 2, 3", "d@40|x@10|y@20, 3, 3"},
		{1, "c@30", "b@20|d@40, 2, 3", "d@40|x@10|y@20, 3, 3"},
		{2, "d@40", "b@20|c@30, 2, 3", "c@30|x@10|y@20, 3, 3"},
	} {
		h := from(t, 3, "a", "b", "c", "d")
		got, err := h.Remove(c.i)
		wantOut(t, "Remove", got, err, c.out, api.OK)
		wantLook(t, "Remove", h, c.is)
		wantErr(t, "Add", h.Add(hist("x", "y")...), api.OK)
		wantLook(t, "Remove and Add", h, c.then)
	}
	h := from(t, 3, "a", "b")
	for _, i := range append(far, 2, 3) {
		got, err := h.Remove(i)
		wantOut(t, "Remove", got, err, "", api.ErrNone)
	}
	wantLook(t, "Remove", h, "a@10|b@20, 1, 3")
	for _, want := range []string{"a@10", "b@20"} {
		got, err := h.Remove(0)
		wantOut(t, "Remove", got, err, want, api.OK)
	}
	got, err := h.Remove(0)
	wantOut(t, "Remove", got, err, "", api.ErrNone)
	wantLook(t, "Remove", h, ", 1, 3")
	wantErr(t, "Add", h.Add(hist("x")...), api.OK)
	wantLook(t, "Remove and Add", h, "x@10, 1, 3")
}

// TestStifle: P10.1 (Stifle), to fewer lines and to more.
func TestStifle(t *testing.T) {
	h := from(t, 5, "a", "b", "c", "d")
	for _, c := range []struct {
		most int
		want string
	}{
		{4, "a@10|b@20|c@30|d@40, 1, 4"},
		{4, "a@10|b@20|c@30|d@40, 1, 4"},
		{4096, "a@10|b@20|c@30|d@40, 1, 4096"},
		{3, "b@20|c@30|d@40, 2, 3"},
		{1, "d@40, 4, 1"},
		{2, "d@40, 4, 2"},
		{0, ", 5, 0"},
		{7, ", 5, 7"},
	} {
		wantErr(t, "Stifle", h.Stifle(c.most), api.OK)
		wantLook(t, "Stifle", h, c.want)
	}
	wantErr(t, "Add", h.Add(hist("x", "y")...), api.OK)
	wantLook(t, "Stifle and Add", h, "x@10|y@20, 5, 7")
}

// TestRemoved: P10.1, what is removed is kept no longer, also where the array of the lines is.
func TestRemoved(t *testing.T) {
	for _, remove := range []func(h *List){
		func(h *List) { h.Stifle(0) },
		func(h *List) {
			for range 3 {
				h.Remove(0)
			}
		},
	} {
		h := from(t, 3, "a", "b", "c")
		array := h.list
		remove(h)
		if h.Len() != 0 || slices.ContainsFunc(array, func(l api.HistLine) bool { return l.Text != "" }) {
			t.Error("still there:", array)
		}
	}
}

// TestAll: P10.2 (All) and R3, as often and as far as one likes, whatever happens later.
func TestAll(t *testing.T) {
	h := from(t, 3, "a", "b", "c")
	all := h.All()
	for range 2 {
		if got := shown(all); got != "a@10|b@20|c@30" {
			t.Error(got)
		}
	}
	for stop := range 3 {
		var seen []int
		for i := range all {
			seen = append(seen, i)
			if i == stop {
				break
			}
		}
		if !slices.Equal(seen, []int{0, 1, 2}[:stop+1]) {
			t.Error("stopped at", stop, seen)
		}
	}
	h.Replace(0, api.HistLine{Text: "x"})
	h.Remove(1)
	h.Add(hist("y", "z")...)
	h.Stifle(2)
	if got := shown(all); got != "a@10|b@20|c@30" {
		t.Error("after changes:", got)
	}
	for i := range h.All() {
		h.Add(hist(strconv.Itoa(i))...)
	}
	wantLook(t, "Add within All", h, "0@10|1@10, 5, 2")
}

// TestClone: P10.2 (Clone), the same state, and independent from then on in both directions.
func TestClone(t *testing.T) {
	changes := []func(h *List){
		func(h *List) { h.Add(hist("x", "y", "z")...) },
		func(h *List) { h.Replace(1, api.HistLine{Text: "x"}) },
		func(h *List) { h.Remove(0) },
		func(h *List) { h.Stifle(1) },
		func(h *List) { h.Stifle(4096) },
	}
	for i, change := range changes {
		for _, other := range append(changes, func(*List) {}) {
			h := from(t, 4, "a", "b", "c", "d", "e")
			h.Remove(3)
			c, same := h.Clone(), from(t, 4, "a", "b", "c", "d", "e")
			same.Remove(3)
			wantLook(t, "Clone", c, "b@20|c@30|d@40, 2, 4")
			change(h)
			change(same)
			wantLook(t, "Clone after change "+strconv.Itoa(i), c, "b@20|c@30|d@40, 2, 4")
			other(c)
			wantLook(t, "what was cloned, after change "+strconv.Itoa(i), h, look(same))
			wantLook(t, "Clone of a clone", c.Clone(), look(c))
		}
	}
	h, _ := New(2)
	wantErr(t, "Add", h.Clone().Add(hist("a")...), api.OK)
	wantLook(t, "what was cloned", h, ", 1, 2")
	wantLook(t, "Clone", h.Clone(), ", 1, 2")
}

// TestSearch: P10.3, in both directions, anywhere and at beginnings.
func TestSearch(t *testing.T) {
	h := from(t, 9, "make", "ls -l", "make install", "", "lsls", "make")
	for _, c := range []struct {
		from         int
		text         string
		back, begins bool
		place, index int
		is           bool
	}{
		{5, "make", true, true, 5, 0, true},
		{4, "make", true, true, 2, 0, true},
		{2, "make", true, true, 2, 0, true},
		{1, "make", true, true, 0, 0, true},
		{0, "make", false, true, 0, 0, true},
		{1, "make", false, true, 2, 0, true},
		{3, "make", false, true, 5, 0, true},
		{5, "ls", true, false, 4, 2, true},
		{5, "ls", true, true, 4, 0, true},
		{3, "ls", true, false, 1, 0, true},
		{0, "ls", false, false, 1, 0, true},
		{2, "ls", false, false, 4, 0, true},
		{0, "l", false, false, 1, 0, true},
		{1, "l", true, false, 1, 4, true},
		{2, "l", true, false, 2, 11, true},
		{2, "l", false, false, 2, 10, true},
		{2, "l", true, true, 1, 0, true},
		{0, "install", false, false, 2, 5, true},
		{0, "install", false, true, 0, 0, false},
		{5, "install", true, true, 0, 0, false},
		{1, "install", true, false, 0, 0, false},
		{3, "install", false, false, 0, 0, false},
		{5, "makes", true, false, 0, 0, false},
		{0, "Make", false, false, 0, 0, false},
		{5, "make install ", true, true, 0, 0, false},
	} {
		wantSearch(t, h, c.from, c.text, c.back, c.begins, c.place, c.index, c.is)
	}
}

// TestSearchFar: P10.3, from what is not a place.
func TestSearchFar(t *testing.T) {
	h := from(t, 9, "ab", "b", "ab")
	for _, from := range append(far, 3, 4) {
		for _, begins := range []bool{true, false} {
			if from > 2 {
				wantSearch(t, h, from, "a", true, begins, 2, 0, true)
				wantSearch(t, h, from, "a", false, begins, 0, 0, false)
				wantSearch(t, h, from, "", false, begins, 0, 0, false)
			} else {
				wantSearch(t, h, from, "a", true, begins, 0, 0, false)
				wantSearch(t, h, from, "", true, begins, 0, 0, false)
				wantSearch(t, h, from, "a", false, begins, 0, 0, true)
			}
			wantSearch(t, h, from, "c", from > 2, begins, 0, 0, false)
		}
	}
	h, _ = New(9)
	for _, from := range append(far, 0, 1) {
		for _, back := range []bool{true, false} {
			wantSearch(t, h, from, "", back, true, 0, 0, false)
			wantSearch(t, h, from, "a", back, false, 0, 0, false)
		}
	}
}

// TestSearchEmpty: P10.3, an empty text is found in every line.
func TestSearchEmpty(t *testing.T) {
	h := from(t, 9, "abc", "", "\u4e2d")
	for place, length := range []int{3, 0, 3} {
		wantSearch(t, h, place, "", true, false, place, length, true)
		wantSearch(t, h, place, "", true, true, place, 0, true)
		wantSearch(t, h, place, "", false, false, place, 0, true)
		wantSearch(t, h, place, "", false, true, place, 0, true)
	}
	wantSearch(t, h, math.MaxInt, "", true, false, 2, 3, true)
	wantSearch(t, h, math.MinInt, "", false, false, 0, 0, true)
}

// TestSearchBytes: P10.3, indices count bytes, occurrences overlap, and any bytes are searched for.
func TestSearchBytes(t *testing.T) {
	h := from(t, 9, "\u4e2d\u6587\u4e2d", "aaaa", "\xff\x00\xff\n", long(16384))
	wantSearch(t, h, 0, "\u4e2d", true, false, 0, 6, true)
	wantSearch(t, h, 0, "\u6587", false, false, 0, 3, true)
	wantSearch(t, h, 0, "\xb8", true, false, 0, 7, true)
	wantSearch(t, h, 1, "aa", true, false, 1, 2, true)
	wantSearch(t, h, 1, "aa", false, false, 1, 0, true)
	wantSearch(t, h, 3, "\xff", true, false, 2, 2, true)
	wantSearch(t, h, 0, "\x00\xff\n", false, false, 2, 1, true)
	wantSearch(t, h, 3, long(16384), true, false, 3, 0, true)
	wantSearch(t, h, 3, long(16383), true, false, 3, 1, true)
	wantSearch(t, h, 3, long(16385), true, false, 0, 0, false)
	wantSearch(t, h, 3, long(1<<20), false, true, 0, 0, false)
}

// TestZero: R5, what no call returned.
func TestZero(t *testing.T) {
	for _, h := range []*List{nil, {}} {
		for range 2 {
			for _, n := range append(far, 0, 1, 5) {
				wantErr(t, "Stifle", h.Stifle(n), api.ErrMade)
				got, err := h.Replace(n, api.HistLine{Text: long(16385), Time: -1})
				wantOut(t, "Replace", got, err, "", api.ErrMade)
				got, err = h.Remove(n)
				wantOut(t, "Remove", got, err, "", api.ErrMade)
				l, is := h.At(n)
				wantLine(t, "At", l, is, "")
				l, is = h.Number(int64(n))
				wantLine(t, "Number", l, is, "")
				wantSearch(t, h, n, "", n > 0, n%2 == 0, 0, 0, false)
			}
			wantErr(t, "Add", h.Add(), api.ErrMade)
			wantErr(t, "Add", h.Add(hist("a")...), api.ErrMade)
			wantErr(t, "Add", h.Add(api.HistLine{Text: long(16385)}, api.HistLine{Time: -1}), api.ErrMade)
			if h.Len() != 0 || h.Base() != 0 || h.Most() != 0 || h.Clone() != nil {
				t.Error("Len", h.Len(), "Base", h.Base(), "Most", h.Most(), "Clone", h.Clone())
			}
			for i, l := range h.All() {
				t.Error("All", i, l)
			}
		}
		if h != nil && (h.made || h.list != nil || h.base != 0 || h.most != 0) {
			t.Error("a zero history has changed")
		}
	}
}

// TestOwnership: R3, arguments are neither changed nor kept.
func TestOwnership(t *testing.T) {
	for _, most := range []int{0, 1, 3, 9} {
		l := slices.Grow(hist("a", "b", "c", "d"), 10)
		h, _ := From(most, l...)
		before := look(h)
		wantErr(t, "Add", h.Add(), api.OK)
		checkKept(t, l, "a@10|b@20|c@30|d@40")
		spoil(l)
		wantLook(t, "From", h, before)

		l = slices.Grow(hist("e", "f"), 10)
		wantErr(t, "Add", h.Add(l...), api.OK)
		before = look(h)
		checkKept(t, l, "e@10|f@20")
		spoil(l)
		wantLook(t, "Add", h, before)
		wantErr(t, "Add", h.Add(hist("g")...), api.OK)
		if l[0].Text != "#" || l[:10][9].Text != "#" {
			t.Error("Add changes what it was given before:", l[:10])
		}
	}
}

// checkKept holds what was passed, and the room behind it, against what it was.
func checkKept(t *testing.T, l []api.HistLine, want string) {
	t.Helper()
	if got := shown(slices.All(l)); got != want {
		t.Errorf("what was passed is %s, not %s", got, want)
	}
	for _, behind := range l[len(l):cap(l)] {
		if behind != (api.HistLine{}) {
			t.Error("behind what was passed is", behind)
		}
	}
}

func spoil(l []api.HistLine) {
	l = l[:cap(l)]
	for i := range l {
		l[i] = api.HistLine{Text: "#", Time: 77}
	}
}
