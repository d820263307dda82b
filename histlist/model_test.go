package histlist

import (
	"math/rand/v2"
	"slices"
	"strconv"
	"strings"
	"testing"

	"lanyard/api"
)

// model is the chapter word by word: lines, the number of the first one, and how many are kept.
type model struct {
	lines []api.HistLine
	base  int64
	most  int
}

func (m *model) valid(l ...api.HistLine) api.Errno {
	for _, line := range l {
		if len(line.Text) > 16384 {
			return 3
		}
	}
	for _, line := range l {
		if line.Time < 0 {
			return 1
		}
	}
	return 0
}

func (m *model) trim() {
	for len(m.lines) > m.most {
		m.lines = m.lines[1:]
		m.base++
	}
}

func (m *model) add(l ...api.HistLine) api.Errno {
	if err := m.valid(l...); err != 0 {
		return err
	}
	for _, line := range l {
		m.lines = append(m.lines, line)
	}
	m.trim()
	return 0
}

func (m *model) stifle(most int) api.Errno {
	if most < 0 || most > 4096 {
		return 1
	}
	m.most = most
	m.trim()
	return 0
}

func (m *model) isPlace(i int) bool { return 0 <= i && i <= len(m.lines)-1 }

func (m *model) replace(i int, l api.HistLine) (api.HistLine, api.Errno) {
	if !m.isPlace(i) {
		return api.HistLine{}, 4
	}
	if err := m.valid(l); err != 0 {
		return api.HistLine{}, err
	}
	old := m.lines[i]
	m.lines = slices.Concat(m.lines[:i], []api.HistLine{l}, m.lines[i+1:])
	return old, 0
}

func (m *model) remove(i int) (api.HistLine, api.Errno) {
	if !m.isPlace(i) {
		return api.HistLine{}, 4
	}
	old := m.lines[i]
	m.lines = slices.Concat(m.lines[:i], m.lines[i+1:])
	return old, 0
}

// occurrences are all indices at which text begins in line.
func occurrences(line, text string) []int {
	var all []int
	for i := 0; i+len(text) <= len(line); i++ {
		if line[i:i+len(text)] == text {
			all = append(all, i)
		}
	}
	return all
}

// search looks at all lines, and takes the nearest one that has a match.
func (m *model) search(from int, text string, back, begins bool) (int, int, bool) {
	if back && from > len(m.lines)-1 {
		from = len(m.lines) - 1
	}
	if !back && from < 0 {
		from = 0
	}
	place, index, found := 0, 0, false
	for i, line := range m.lines {
		all := occurrences(line.Text, text)
		if begins && len(all) > 0 && all[0] != 0 {
			all = nil
		}
		if len(all) == 0 || !m.isPlace(from) || back && i > from || !back && (i < from || found) {
			continue
		}
		place, index, found = i, all[0], true
		if back && !begins {
			index = all[len(all)-1]
		}
	}
	return place, index, found
}

func (m *model) clone() *model { return &model{slices.Clone(m.lines), m.base, m.most} }

// pair is a history and what it should be.
type pair struct {
	h *List
	m *model
}

func newPair(most int) pair {
	h, _ := New(most)
	return pair{h, &model{nil, 1, most}}
}

func (p pair) clone() pair { return pair{p.h.Clone(), p.m.clone()} }

func (p pair) check(t *testing.T, what string) {
	t.Helper()
	if p.h.Len() != len(p.m.lines) || p.h.Base() != p.m.base || p.h.Most() != p.m.most {
		t.Fatalf("%s: Len %d, Base %d, Most %d, not %d, %d, %d", what, p.h.Len(), p.h.Base(), p.h.Most(), len(p.m.lines), p.m.base, p.m.most)
	}
	n := 0
	for i, l := range p.h.All() {
		at, is := p.h.At(i)
		numbered, isNumber := p.h.Number(p.m.base + int64(n))
		if i != n || l != p.m.lines[i] || at != l || numbered != l || !is || !isNumber {
			t.Fatalf("%s: %d, %v, %v, %v as number %d of %v", what, i, l, at, numbered, n, p.m.lines)
		}
		n++
	}
	if n != len(p.m.lines) {
		t.Fatalf("%s: All yields %d, not %d", what, n, len(p.m.lines))
	}
}

func (p pair) add(t *testing.T, l ...api.HistLine) {
	t.Helper()
	wantErr(t, "Add", p.h.Add(l...), p.m.add(l...))
	p.check(t, "Add of "+strconv.Itoa(len(l)))
}

func (p pair) stifle(t *testing.T, most int) {
	t.Helper()
	wantErr(t, "Stifle", p.h.Stifle(most), p.m.stifle(most))
	p.check(t, "Stifle to "+strconv.Itoa(most))
}

func (p pair) replace(t *testing.T, i int, l api.HistLine) {
	t.Helper()
	got, err := p.h.Replace(i, l)
	want, wanted := p.m.replace(i, l)
	if got != want || err != wanted {
		t.Fatalf("Replace of %d returns %v, %d, not %v, %d", i, got, err, want, wanted)
	}
	p.check(t, "Replace of "+strconv.Itoa(i))
}

func (p pair) remove(t *testing.T, i int) {
	t.Helper()
	got, err := p.h.Remove(i)
	want, wanted := p.m.remove(i)
	if got != want || err != wanted {
		t.Fatalf("Remove of %d returns %v, %d, not %v, %d", i, got, err, want, wanted)
	}
	p.check(t, "Remove of "+strconv.Itoa(i))
}

// search holds Search against the model and against P10.7: what is found is a match, and there is none before it.
func (p pair) search(t *testing.T, from int, text string, back, begins bool) {
	t.Helper()
	place, index, is := p.h.Search(from, text, back, begins)
	wantPlace, wantIndex, want := p.m.search(from, text, back, begins)
	if place != wantPlace || index != wantIndex || is != want {
		t.Fatalf("Search(%d, %q, %v, %v) in %v: %d, %d, %v, not %d, %d, %v", from, text, back, begins, p.m.lines, place, index, is, wantPlace, wantIndex, want)
	}
	l, _ := p.h.At(place)
	if is && !strings.HasPrefix(l.Text[index:], text) {
		t.Fatalf("Search(%d, %q, %v, %v): there is no match in %s at %d", from, text, back, begins, l.Text, index)
	}
	step := 1
	if back {
		step = -1
	}
	for i := min(max(from, 0), p.h.Len()-1); is && i != place; i += step {
		if l, _ := p.h.At(i); begins && strings.HasPrefix(l.Text, text) || !begins && strings.Contains(l.Text, text) {
			t.Fatalf("Search(%d, %q, %v, %v): a match at %d, ahead of %d", from, text, back, begins, i, place)
		}
	}
}

func (p pair) searchAll(t *testing.T, text string) {
	t.Helper()
	for from := -2; from < p.h.Len()+2; from++ {
		p.search(t, from, text, true, true)
		p.search(t, from, text, true, false)
		p.search(t, from, text, false, true)
		p.search(t, from, text, false, false)
	}
}

// step does one of a few things to both.
func (p pair) step(t *testing.T, kind int, text string) {
	t.Helper()
	l := api.HistLine{Text: text, Time: int64(kind)}
	switch {
	case kind < 3:
		p.add(t, slices.Repeat([]api.HistLine{l}, kind)...)
	case kind < 6:
		p.stifle(t, kind-3)
	case kind < 8:
		p.replace(t, kind-6, l)
	case kind < 10:
		p.remove(t, kind-8)
	default:
		p.add(t, l, api.HistLine{Time: -1})
	}
}

// steps is how many kinds of steps there are.
const steps = 11

// TestModelShort: every sequence of a few steps.
func TestModelShort(t *testing.T) {
	var try func(p pair, left int)
	try = func(p pair, left int) {
		p.searchAll(t, "a")
		if left == 0 {
			return
		}
		for kind := range steps {
			next := p.clone()
			next.step(t, kind, []string{"a", "ba", ""}[(kind+left)%3])
			try(next, left-1)
		}
		p.check(t, "a history whose clones were changed")
	}
	for most := range 4 {
		try(newPair(most), 4)
	}
}

// TestModelSearch: P10.3 and P10.7, each short text in histories of short texts.
func TestModelSearch(t *testing.T) {
	short := []string{"", "a", "b", "aa", "ab", "ba", "bb", "aab", "aba", "baa", "aaa"}
	for _, first := range short {
		for _, second := range short {
			for _, third := range short {
				p := newPair(4)
				p.add(t, hist("zz", first, second, third, "b")...)
				for _, text := range short {
					p.searchAll(t, text)
				}
			}
		}
	}
}

// randomText is a short text, or now and then one that is nearly too long, or is.
func randomText(random *rand.Rand) string {
	if random.IntN(40) == 0 {
		return long(16380 + random.IntN(8))
	}
	b := make([]byte, random.IntN(6))
	for i := range b {
		b[i] = "ab\xff\n"[random.IntN(4)]
	}
	return string(b)
}

func randomLines(random *rand.Rand) []api.HistLine {
	l := make([]api.HistLine, random.IntN(7))
	for i := range l {
		l[i] = api.HistLine{Text: randomText(random), Time: int64(random.IntN(100) - 1)}
	}
	return l
}

// TestModelWalk: many steps in histories of many sizes.
func TestModelWalk(t *testing.T) {
	random := rand.New(rand.NewPCG(10, 10))
	for round := range 300 {
		most := round % 100
		p := newPair(most)
		for range 200 {
			at := random.IntN(most+4) - 2
			switch random.IntN(8) {
			case 0:
				p.replace(t, at, api.HistLine{Text: randomText(random), Time: int64(random.IntN(9) - 1)})
			case 1:
				p.remove(t, at)
			case 2:
				p.stifle(t, max(p.m.most+random.IntN(7)-3, -1))
			case 3:
				p.search(t, at, randomText(random), random.IntN(2) == 0, random.IntN(2) == 0)
			case 4:
				left := p
				p = p.clone()
				left.step(t, random.IntN(steps), "left")
				p.check(t, "a clone")
			default:
				p.add(t, randomLines(random)...)
			}
		}
	}
}

// walkModel is what the chapter says of a walk, word by word: the changed lines by their places, and the line in progress.
type walkModel struct {
	texts    []string
	changed  map[int]string
	progress string
	place    int
}

func newWalkModel(texts ...string) *walkModel {
	return &walkModel{texts, map[int]string{}, "", len(texts)}
}

func (m *walkModel) here(place int) (string, bool) {
	if place < 0 || place > len(m.texts) {
		return "", false
	}
	if place == len(m.texts) {
		return m.progress, true
	}
	if text, is := m.changed[place]; is {
		return text, true
	}
	return m.texts[place], true
}

func (m *walkModel) to(place int, here string) (string, api.Errno) {
	if place < 0 || place > len(m.texts) {
		return "", 6
	}
	if len(here) > 16384 {
		return "", 3
	}
	if m.place == len(m.texts) {
		m.progress = here
	} else if m.texts[m.place] == here {
		delete(m.changed, m.place)
	} else {
		m.changed[m.place] = here
	}
	m.place = place
	text, _ := m.here(place)
	return text, 0
}

func (m *walkModel) look() string {
	var contents, changed []string
	for i := range len(m.texts) + 1 {
		text, _ := m.here(i)
		contents = append(contents, text)
		if text, is := m.changed[i]; is {
			changed = append(changed, strconv.Itoa(i)+" "+text)
		}
	}
	return strings.Join(contents, "|") + ", " + strings.Join(changed, "|") + ", " + strconv.Itoa(m.place)
}

func checkTo(t *testing.T, w *Walk, m *walkModel, place int, here string) {
	t.Helper()
	text, err := m.to(place, here)
	wantTo(t, w, place, here, text, err)
	wantWalk(t, "To "+strconv.Itoa(place), w, m.look())
}

// TestWalkShort: P10.4 and P10.6, every sequence of a few steps over a short history.
func TestWalkShort(t *testing.T) {
	const places, texts, most = 5, 3, 4
	choices := places * texts
	total := 1
	for range most {
		total *= choices
	}
	for number := range total {
		w, m := walk(t, "a", "b"), newWalkModel("a", "b")
		for range most {
			checkTo(t, w, m, number%choices/texts-1, []string{"a", "b", ""}[number%texts])
			number /= choices
		}
	}
}

// TestWalkModel: many steps over histories of many sizes.
func TestWalkModel(t *testing.T) {
	random := rand.New(rand.NewPCG(10, 4))
	for round := range 100 {
		texts := make([]string, round%40)
		for i := range texts {
			texts[i] = []string{"a", "b", "aa", ""}[random.IntN(4)]
		}
		w, m := walk(t, texts...), newWalkModel(texts...)
		for range 300 {
			here := randomText(random)
			if random.IntN(3) == 0 && m.place < len(texts) {
				here = texts[m.place]
			}
			checkTo(t, w, m, random.IntN(len(texts)+3)-1, here)
		}
	}
}

// FuzzList takes three bytes for a step: what is done, where, and with which text.
func FuzzList(f *testing.F) {
	f.Add([]byte{2, 0, 'a', 2, 0, 'b', 5, 1, 'a', 3, 0, 'c', 4, 1, 0, 6, 2, 'x', 6, 0, 'y'})
	f.Add([]byte{0, 1, 0, 2, 9, 'a', 0, 0, 0, 2, 3, 'b', 0, 200, 0, 6, 0, 0})
	f.Fuzz(func(t *testing.T, input []byte) {
		p := newPair(5)
		w, m := walk(t), newWalkModel()
		for s := range slices.Chunk(input, 3) {
			if len(s) < 3 {
				return
			}
			at, text := int(int8(s[1])), strings.Repeat(string(s[2:]), int(s[2]%4))
			l := api.HistLine{Text: text, Time: int64(at)}
			switch s[0] % 8 {
			case 0:
				p.stifle(t, at)
			case 1:
				w, _ = NewWalk(p.h)
				var texts []string
				for _, l := range p.m.lines {
					texts = append(texts, l.Text)
				}
				m = newWalkModel(texts...)
			case 2:
				p.add(t, slices.Repeat([]api.HistLine{l}, int(s[1]%8))...)
			case 3:
				p.replace(t, at, l)
			case 4:
				p.remove(t, at)
			case 5:
				p.search(t, at, text, s[0]&8 > 0, s[0]&16 > 0)
			default:
				checkTo(t, w, m, at, text)
			}
		}
	})
}

// TestManyLines: THE BOUND, histories that are filled, changed, cloned, gone through and searched many times.
func TestManyLines(t *testing.T) {
	h := from(t, 4096)
	for i := range 1 << 20 {
		if err := h.Add(api.HistLine{Time: int64(i)}); err != api.OK {
			t.Fatal(err)
		}
	}
	if h.Len() != 4096 || h.Base() != 1<<20-4095 {
		t.Fatal(h.Len(), h.Base())
	}
	many := make([]api.HistLine, 1<<20)
	for most := range 5 {
		h, err := From(most, many...)
		if err != api.OK || h.Len() != most || cap(h.list) > 100 {
			t.Fatal(err, h.Len(), cap(h.list))
		}
	}
	for round := range 200 {
		c := h.Clone()
		times := int64(0)
		for i, l := range c.All() {
			times += l.Time - int64(i)
		}
		if times != 4096*(1<<20-4096) {
			t.Fatal(times)
		}
		h.Remove(round)
		h.Add(api.HistLine{Text: "x", Time: 1<<20 + int64(round)})
		h = c
	}
	for h.Len() > 0 {
		h.Remove(0)
	}
}

// TestManySearches: THE BOUND, texts that nearly match in many places of long lines.
func TestManySearches(t *testing.T) {
	h := from(t, 100, slices.Repeat([]string{long(16384)}, 100)...)
	for _, text := range []string{long(8000) + "y", "y" + long(8000), long(4000) + "y" + long(4000)} {
		for _, back := range []bool{true, false} {
			wantSearch(t, h, 50, text, back, false, 0, 0, false)
			wantSearch(t, h, 50, text, back, true, 0, 0, false)
		}
	}
}

// leaveAll goes from the first line to the line in progress and leaves at each place what it is to be.
func leaveAll(w *Walk, content func(place int) string) {
	here, _ := w.Here(w.Place())
	w.To(0, here)
	for place := range 4096 {
		w.To(place+1, content(place))
	}
}

// TestManyWalks: THE BOUND, walks over a full history.
func TestManyWalks(t *testing.T) {
	h := from(t, 4096, numbered(0, 4096)...)
	w, _ := NewWalk(h)
	for range 50 {
		leaveAll(w, func(int) string { return "x" })
		changed := 0
		for range w.Changed() {
			changed++
		}
		leaveAll(w, strconv.Itoa)
		for place, text := range w.Changed() {
			t.Fatal("still changed:", place, text)
		}
		if changed != 4096 || w.Place() != 4096 {
			t.Fatal(changed, w.Place())
		}
	}
	for range 200 {
		if w, err := NewWalk(h); err != api.OK || w.Place() != 4096 {
			t.Fatal(err)
		}
	}
}
