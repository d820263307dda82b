package histlist

import (
	"iter"
	"slices"
	"strings"

	"lanyard/api"
)

// lines are the last lines that were added, the oldest one first.
type lines struct {
	list []api.HistLine
	base int64 // the number of the oldest one
	most int   // how many are kept
}

// copied returns lines that do not change with l.
func (l lines) copied() lines {
	l.list = slices.Clone(l.list)
	return l
}

func (l lines) has(place int) bool { return place >= 0 && place < len(l.list) }

func (l lines) at(place int) (api.HistLine, bool) {
	if !l.has(place) {
		return api.HistLine{}, false
	}
	return l.list[place], true
}

func (l lines) numbered(n int64) (api.HistLine, bool) {
	if n < l.base || n >= l.base+int64(len(l.list)) {
		return api.HistLine{}, false
	}
	return l.list[n-l.base], true
}

// from yields the lines from place on with their places: toward the oldest one if back is true, otherwise toward the newest one.
func (l lines) from(place int, back bool) iter.Seq2[int, api.HistLine] {
	step := 1
	if back {
		step = -1
	}
	return func(yield func(int, api.HistLine) bool) {
		for i := place; l.has(i); i += step {
			if !yield(i, l.list[i]) {
				return
			}
		}
	}
}

// push adds the lines one by one, so that very many of them do not leave a long array behind.
func (l *lines) push(more ...api.HistLine) {
	for _, line := range more {
		l.list = append(l.list, line)
		l.trim()
	}
}

// trim removes the oldest lines as long as there are too many. The others stay where they are, so that a line added to a full history does not move all of them; what is removed is cleared, as the array would keep it.
func (l *lines) trim() {
	excess := max(len(l.list)-l.most, 0)
	clear(l.list[:excess])
	l.list = l.list[excess:]
	l.base += int64(excess)
}

// find returns the index of text in line, or -1: 0 if begins is true, otherwise the last one if back is true, or the first one.
func find(line, text string, back, begins bool) int {
	switch {
	case begins && strings.HasPrefix(line, text):
		return 0
	case begins:
		return -1
	case back:
		return strings.LastIndex(line, text)
	}
	return strings.Index(line, text)
}
