package histlist

import (
	"math"
	"slices"
	"strconv"
	"strings"
	"testing"

	"lanyard/api"
)

// walk returns a walk over these lines.
func walk(t *testing.T, texts ...string) *Walk {
	t.Helper()
	w, err := NewWalk(from(t, 4096, texts...))
	wantErr(t, "NewWalk", err, api.OK)
	if w == nil {
		t.Fatal("NewWalk returns nothing")
	}
	return w
}

// wantTo holds To against a content, or against an error and none.
func wantTo(t *testing.T, w *Walk, place int, here, want string, wanted api.Errno) {
	t.Helper()
	got, err := w.To(place, here)
	if got != want || err != wanted {
		t.Errorf("To(%d, %.20s) returns %.20s, %d, not %.20s, %d", place, here, got, err, want, wanted)
	}
}

// lookWalk returns the contents of all places, what is changed, and the place: "a|b2|x, 1 b2, 0".
func lookWalk(w *Walk) string {
	var contents, changed []string
	for i := 0; ; i++ {
		content, is := w.Here(i)
		if !is {
			break
		}
		contents = append(contents, content)
	}
	for i, text := range w.Changed() {
		changed = append(changed, strconv.Itoa(i)+" "+text)
	}
	return strings.Join(contents, "|") + ", " + strings.Join(changed, "|") + ", " + strconv.Itoa(w.Place())
}

func wantWalk(t *testing.T, what string, w *Walk, want string) {
	t.Helper()
	if got := lookWalk(w); got != want {
		t.Errorf("%s: %s, not %s", what, got, want)
	}
}

// TestWalkChapter: the examples of the chapter, in their order.
func TestWalkChapter(t *testing.T) {
	w := walk(t, "a", "b")
	if w.Place() != 2 {
		t.Error("Place", w.Place())
	}
	wantTo(t, w, 1, "x", "b", api.OK)
	wantTo(t, w, 2, "b2", "x", api.OK)
	wantWalk(t, "two steps", w, "a|b2|x, 1 b2, 2")
	wantTo(t, w, 1, "x", "b2", api.OK)
	wantTo(t, w, 3, "", "", api.ErrBell)
	wantWalk(t, "after ErrBell", w, "a|b2|x, 1 b2, 1")
	wantTo(t, w, 2, "b", "x", api.OK)
	wantWalk(t, "no longer changed", w, "a|b|x, , 2")
}

// TestNewWalk: P10.4 (NewWalk, Place, Here), over histories of all sizes.
func TestNewWalk(t *testing.T) {
	wantWalk(t, "NewWalk", walk(t), ", , 0")
	wantWalk(t, "NewWalk", walk(t, "a"), "a|, , 1")
	wantWalk(t, "NewWalk", walk(t, "", "\xff\n", ""), "|\xff\n||, , 3")
	for _, most := range []int{0, 1, 2} {
		w, err := NewWalk(from(t, most, "a", "b", "c"))
		wantErr(t, "NewWalk", err, api.OK)
		wantWalk(t, "NewWalk", w, []string{"", "c|", "b|c|"}[most]+", , "+strconv.Itoa(most))
	}
	full := numbered(0, 4096)
	wantWalk(t, "NewWalk", walk(t, full...), strings.Join(full, "|")+"|, , 4096")
	for _, h := range []*List{nil, {}} {
		w, err := NewWalk(h)
		wantErr(t, "NewWalk", err, api.ErrMade)
		if w != nil {
			t.Error("NewWalk returns a walk with", err)
		}
	}
}

// TestTo: P10.4 (To), to each place from each place, with the content that was left there.
func TestTo(t *testing.T) {
	for count := range 5 {
		for from := range count + 1 {
			for to := range count + 1 {
				texts := append(numbered(0, count), "")
				w := walk(t, texts[:count]...)
				wantTo(t, w, from, "", texts[from], api.OK)
				for _, here := range []string{"x", "y", "", texts[from]} {
					texts[from] = here
					wantTo(t, w, to, here, texts[to], api.OK)
					if w.Place() != to {
						t.Error("Place", w.Place(), "not", to)
					}
					wantTo(t, w, from, texts[to], texts[from], api.OK)
				}
			}
		}
	}
}

// TestToHere: P10.4 (To), where the walk is already: what is left there is what is found.
func TestToHere(t *testing.T) {
	w := walk(t, "a", "b")
	wantTo(t, w, 2, "x", "x", api.OK)
	wantTo(t, w, 0, "x", "a", api.OK)
	wantTo(t, w, 0, "a2", "a2", api.OK)
	wantWalk(t, "To", w, "a2|b|x, 0 a2, 0")
	wantTo(t, w, 0, "a", "a", api.OK)
	wantWalk(t, "To", w, "a|b|x, , 0")
	w = walk(t)
	wantTo(t, w, 0, "x", "x", api.OK)
	wantWalk(t, "To without lines", w, "x, , 0")
}

// TestToErrors: P10.4 (To) and R2, places that there are not and contents that are too long; nothing changes.
func TestToErrors(t *testing.T) {
	w := walk(t, "a", "b")
	w.To(1, "x")
	w.To(0, "b2")
	want := "a|b2|x, 1 b2, 0"
	wantWalk(t, "To", w, want)
	for _, place := range append(far, 3, 4) {
		wantTo(t, w, place, "y", "", api.ErrBell)
		wantTo(t, w, place, long(16385), "", api.ErrBell)
		wantWalk(t, "ErrBell", w, want)
	}
	for place := range 3 {
		wantTo(t, w, place, long(16385), "", api.ErrLong)
		wantTo(t, w, place, long(1<<20), "", api.ErrLong)
		wantWalk(t, "ErrLong", w, want)
	}
	wantTo(t, w, 2, long(16384), "x", api.OK)
	wantWalk(t, "the longest content", w, long(16384)+"|b2|x, 0 "+long(16384)+"|1 b2, 2")
}

// TestHere: P10.4 (Here), places that there are not.
func TestHere(t *testing.T) {
	w := walk(t, "a", "b")
	for _, place := range append(far, 3, 4) {
		if got, is := w.Here(place); got != "" || is {
			t.Error("Here", place, got, is)
		}
	}
	w = walk(t)
	if got, is := w.Here(1); got != "" || is {
		t.Error("Here", got, is)
	}
}

// put goes to a place and leaves text there, and nothing where the walk was.
func put(w *Walk, place int, text string) {
	here, _ := w.Here(w.Place())
	w.To(place, here)
	w.To(place, text)
}

// TestChanged: P10.4 (Changed), in ascending order, never the line in progress; R3, what was changed when it was requested.
func TestChanged(t *testing.T) {
	w := walk(t, "a", "b", "c", "", "e")
	for _, place := range []int{4, 1, 3, 0, 5} {
		put(w, place, strconv.Itoa(place)+"!")
	}
	wantWalk(t, "To", w, "0!|1!|c|3!|4!|5!, 0 0!|1 1!|3 3!|4 4!, 5")
	changed := w.Changed()
	collect := func(stop int) []api.Saved {
		var seen []api.Saved
		for i, text := range changed {
			if seen = append(seen, api.Saved{At: i, Text: text}); len(seen) == stop {
				break
			}
		}
		return seen
	}
	want := []api.Saved{{At: 0, Text: "0!"}, {At: 1, Text: "1!"}, {At: 3, Text: "3!"}, {At: 4, Text: "4!"}}
	for stop := 1; stop <= 5; stop++ {
		if seen := collect(stop); !slices.Equal(seen, want[:min(stop, 4)]) {
			t.Error("stopped at", stop, seen)
		}
	}
	put(w, 0, "a")
	put(w, 2, "c2")
	put(w, 4, "e!")
	wantWalk(t, "To", w, "a|1!|c2|3!|e!|5!, 1 1!|2 c2|3 3!|4 e!, 4")
	if seen := collect(0); !slices.Equal(seen, want) {
		t.Error("after changes:", seen)
	}
	for i, text := range w.Changed() {
		put(w, i, text+text)
		put(w, 4-i, "within")
	}
	wantWalk(t, "To within Changed", w, "within|within|within|3!3!|e!e!|5!, 0 within|1 within|2 within|3 3!3!|4 e!e!, 0")
}

// TestEmptied: P10.4 (To), a line that becomes empty is changed, and one that was empty is not when it is so again.
func TestEmptied(t *testing.T) {
	w := walk(t, "", "b")
	put(w, 1, "")
	wantWalk(t, "To", w, "||, 1 , 1")
	put(w, 0, "x")
	wantWalk(t, "To", w, "x||, 0 x|1 , 0")
	put(w, 0, "")
	wantWalk(t, "To", w, "||, 1 , 0")
	put(w, 1, strings.Clone("b"))
	wantWalk(t, "To", w, "|b|, , 1")
}

// TestWalkApart: P10.4 and P10.6, later changes of the history do not reach the walk, and the walk does not change the history; walks are independent.
func TestWalkApart(t *testing.T) {
	h := from(t, 3, "a", "b", "c")
	w, _ := NewWalk(h)
	other, _ := NewWalk(h)
	w.To(0, "x")
	w.To(1, "a2")
	wantLook(t, "a history that is walked through", h, "a@10|b@20|c@30, 1, 3")
	wantWalk(t, "another walk", other, "a|b|c|, , 3")
	h.Replace(1, api.HistLine{Text: "b2"})
	h.Remove(0)
	h.Add(hist("y", "z")...)
	h.Stifle(1)
	wantWalk(t, "after changes of the history", w, "a2|b|c|x, 0 a2, 1")
	wantTo(t, w, 2, "b2", "c", api.OK)
	wantTo(t, w, 0, "c", "a2", api.OK)
	wantWalk(t, "after changes of the history", w, "a2|b2|c|x, 0 a2|1 b2, 0")
	wantWalk(t, "another walk", other, "a|b|c|, , 3")
	wantLook(t, "a history that is walked through", h, "z@20, 4, 1")
}

// TestReturns: P10.6, a walk that returns to a place finds what it left there.
func TestReturns(t *testing.T) {
	w := walk(t, numbered(0, 50)...)
	for place := 49; place >= 0; place-- {
		wantTo(t, w, place, "left "+strconv.Itoa(place+1), strconv.Itoa(place), api.OK)
	}
	for place := 1; place <= 50; place++ {
		wantTo(t, w, place, "back "+strconv.Itoa(place-1), "left "+strconv.Itoa(place), api.OK)
	}
	for place := 49; place >= 0; place-- {
		wantTo(t, w, place, "", "back "+strconv.Itoa(place), api.OK)
	}
}

// TestWalkZero: R5, what no call returned.
func TestWalkZero(t *testing.T) {
	for _, w := range []*Walk{nil, {}} {
		for range 2 {
			for _, place := range append(far, 0, 1) {
				wantTo(t, w, place, "a", "", api.ErrMade)
				wantTo(t, w, place, long(16385), "", api.ErrMade)
				if got, is := w.Here(place); got != "" || is {
					t.Error("Here", got, is)
				}
			}
			if w.Place() != 0 {
				t.Error("Place", w.Place())
			}
			for i, text := range w.Changed() {
				t.Error("Changed", i, text)
			}
		}
		if w != nil && (w.contents != nil || w.texts != nil || w.place != 0) {
			t.Error("a zero walk has changed")
		}
	}
}

// TestWalkFar: R1, a place that is not one wherever the walk is.
func TestWalkFar(t *testing.T) {
	w := walk(t)
	wantTo(t, w, math.MinInt, "", "", api.ErrBell)
	wantTo(t, w, math.MaxInt, "", "", api.ErrBell)
	wantTo(t, w, 1, "", "", api.ErrBell)
	wantTo(t, w, 0, "", "", api.OK)
}
