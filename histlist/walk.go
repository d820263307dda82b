package histlist

import (
	"iter"
	"slices"

	"lanyard/api"
)

// Walk is a walk through the lines of a history and the line in progress, which may be changed on the way.
type Walk struct {
	texts    []string // of the lines, as the history had them
	contents []string // of all places, the last one that of the line in progress; a walk that no call returned has none
	place    int
}

// NewWalk returns a walk through the lines that h has now, at the line in progress, which is empty.
func NewWalk(h *List) (*Walk, api.Errno) {
	if !h.usable() {
		return nil, api.ErrMade
	}
	w := &Walk{place: h.Len()}
	for _, line := range h.from(0, false) {
		w.texts = append(w.texts, line.Text)
	}
	w.contents = append(slices.Clone(w.texts), "")
	return w, api.OK
}

// usable reports whether NewWalk returned w.
func (w *Walk) usable() bool { return w != nil && len(w.contents) > 0 }

func (w *Walk) has(place int) bool {
	return w.usable() && place >= 0 && place < len(w.contents)
}

// Place returns where the walk is.
func (w *Walk) Place() int {
	if !w.usable() {
		return 0
	}
	return w.place
}

// To leaves here at the place where the walk is, moves to another one, and returns the content of that.
func (w *Walk) To(place int, here string) (string, api.Errno) {
	switch {
	case !w.usable():
		return "", api.ErrMade
	case !w.has(place):
		return "", api.ErrBell
	case tooLong(here):
		return "", api.ErrLong
	}
	w.contents[w.place] = here
	w.place = place
	return w.contents[place], api.OK
}

// Changed yields the places of the lines whose contents are now others than in the history, with the contents.
func (w *Walk) Changed() iter.Seq2[int, string] {
	var requested Walk
	if w.usable() {
		requested = Walk{texts: w.texts, contents: slices.Clone(w.contents)}
	}
	return func(yield func(int, string) bool) {
		for place, text := range requested.texts {
			content := requested.contents[place]
			if content != text && !yield(place, content) {
				return
			}
		}
	}
}

// Here returns the content of a place, changed or not.
func (w *Walk) Here(place int) (string, bool) {
	if !w.has(place) {
		return "", false
	}
	return w.contents[place], true
}
