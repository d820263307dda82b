package killring

import (
	"math/rand/v2"
	"slices"
	"strconv"
	"testing"

	"lanyard/api"
)

// model is the chapter word by word: entries, the newest one first, and the place.
type model struct {
	entries []string
	place   int
}

func (m *model) kill(way int, l string) api.Errno {
	if way < 0 || way > 2 {
		return 1
	}
	extends := way != 0 && len(m.entries) > 0
	if len(l) > 1024 || extends && len(l)+len(m.entries[0]) > 1024 {
		return 3
	}
	switch {
	case extends && way == 1:
		m.entries[0] += l
	case extends:
		m.entries[0] = l + m.entries[0]
	case l != "" || way != 0:
		m.entries = append([]string{l}, m.entries...)
		m.entries = m.entries[:min(len(m.entries), 60)]
	default:
		return 0
	}
	m.place = 0
	return 0
}

func (m *model) yank() (string, api.Errno) {
	if len(m.entries) == 0 {
		return "", 6
	}
	return m.entries[m.place], 0
}

// rotate moves step by step: n is small.
func (m *model) rotate(n int) (string, api.Errno) {
	for ; n > 0 && len(m.entries) > 0; n-- {
		m.place++
		if m.place == len(m.entries) {
			m.place = 0
		}
	}
	for ; n < 0 && len(m.entries) > 0; n++ {
		m.place--
		if m.place < 0 {
			m.place = len(m.entries) - 1
		}
	}
	return m.yank()
}

func (m *model) clone() *model { return &model{slices.Clone(m.entries), m.place} }

// pair is a ring and what it should be.
type pair struct {
	k *Ring
	m *model
}

func newPair() pair { return pair{New(), &model{}} }

func (p pair) clone() pair { return pair{p.k.Clone(), p.m.clone()} }

func (p pair) check(t *testing.T, what string) {
	t.Helper()
	if p.k.Len() != len(p.m.entries) {
		t.Fatalf("%s: Len %d, not %d", what, p.k.Len(), len(p.m.entries))
	}
	n := 0
	for i, entry := range p.k.All() {
		if i != n || i >= len(p.m.entries) || string(entry) != p.m.entries[i] {
			t.Fatalf("%s: All yields %d, %s as number %d of %q", what, i, string(entry), n, p.m.entries)
		}
		n++
	}
	if n != len(p.m.entries) {
		t.Fatalf("%s: All yields %d, not %d", what, n, len(p.m.entries))
	}
	got, err := p.k.Yank()
	want, wantErr := p.m.yank()
	wantText(t, what+", then Yank", got, err, want, wantErr)
}

func (p pair) kill(t *testing.T, way int, l string) {
	t.Helper()
	what := "Kill of " + l + " in the way " + strconv.Itoa(way)
	wantErr(t, what, p.k.Kill(way, []rune(l)...), p.m.kill(way, l))
	p.check(t, what)
}

func (p pair) rotate(t *testing.T, n int) {
	t.Helper()
	what := "Rotate by " + strconv.Itoa(n)
	got, err := p.k.Rotate(n)
	want, wantErr := p.m.rotate(n)
	wantText(t, what, got, err, want, wantErr)
	p.check(t, what)
}

// step does one of a few things to both.
func (p pair) step(t *testing.T, kind int, text string) {
	t.Helper()
	switch {
	case kind < 3:
		p.kill(t, kind, text)
	case kind < 6:
		p.kill(t, kind-3, "")
	default:
		p.rotate(t, kind-7)
	}
}

// steps is how many kinds of steps there are.
const steps = 9

// TestModelShort: every sequence of a few steps.
func TestModelShort(t *testing.T) {
	var try func(p pair, left int)
	try = func(p pair, left int) {
		if left == 0 {
			return
		}
		for kind := range steps {
			next := p.clone()
			next.step(t, kind, strconv.Itoa(left))
			try(next, left-1)
		}
		p.check(t, "a ring whose clones were changed")
	}
	try(newPair(), 5)
}

// TestModelWalk: many steps, in rings of all sizes, with long texts and short ones.
func TestModelWalk(t *testing.T) {
	random := rand.New(rand.NewPCG(9, 9))
	for walk := range 300 {
		p := newPair()
		longest := []int{3, 100, 1030}[walk%3]
		for i := range walk % 61 {
			p.kill(t, api.KillNew, strconv.Itoa(i))
		}
		for i := range 150 {
			text := string(slices.Repeat([]rune{rune('a' + i%26)}, random.IntN(longest)))
			switch way := random.IntN(8); {
			case way < 5:
				p.kill(t, way-1, text)
			default:
				p.rotate(t, random.IntN(200)-100)
			}
			if random.IntN(10) == 0 {
				left := p
				p = p.clone()
				left.step(t, random.IntN(steps), "left")
				p.check(t, "a clone")
			}
		}
	}
}

// FuzzRing takes two bytes for a step.
func FuzzRing(f *testing.F) {
	f.Add([]byte{0, 'b', 1, 'c', 2, 'a', 0, 'x', 6, 1, 6, 255, 3, 0, 4, 0, 5, 0})
	f.Add([]byte{7, 250, 8, 200, 1, 240, 2, 240, 2, 240, 2, 240, 2, 240, 0, 'x', 6, 130})
	f.Fuzz(func(t *testing.T, input []byte) {
		p := newPair()
		for s := range slices.Chunk(input, 2) {
			if len(s) < 2 {
				return
			}
			switch kind := s[0] % 9; {
			case kind < 3:
				p.kill(t, int(kind), string(rune(s[1]%128)))
			case kind < 6:
				p.kill(t, int(kind)-3, string(slices.Repeat([]byte{'x'}, 5*int(s[1]))))
			case kind == 6:
				p.rotate(t, int(int8(s[1])))
			default:
				for i := range s[1] % 64 {
					p.kill(t, api.KillNew, string(rune('0'+i)))
				}
			}
		}
	})
}

// TestManyKills: THE BOUND, rings that are filled, extended, cloned and gone through many times.
func TestManyKills(t *testing.T) {
	k := New()
	for i := range 1 << 20 {
		if err := k.Kill(api.KillNew, rune(i)); err != api.OK {
			t.Fatal(err)
		}
	}
	k, _ = From(slices.Repeat([][]rune{times(1000)}, api.MaxKills)...)
	for round := range 1000 {
		runes := 0
		for _, entry := range k.Clone().All() {
			runes += len(entry)
		}
		if runes != 60*1000 {
			t.Fatal(runes)
		}
		if l, err := k.Rotate(1 << (round % 63)); err != api.OK || len(l) != 1000 {
			t.Fatal(err, len(l))
		}
	}
	for range 200 {
		k.Kill(api.KillNew, 'x')
		for range api.MaxLine - 1 {
			if err := k.Kill(api.KillPrepend, 'y'); err != api.OK {
				t.Fatal(err)
			}
		}
		wantErr(t, "Kill", k.Kill(api.KillAppend, 'z'), api.ErrLong)
	}
}
