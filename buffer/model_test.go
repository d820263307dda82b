package buffer

import (
	"math/rand/v2"
	"slices"
	"strconv"
	"testing"

	"lanyard/api"
)

// model is the chapter word by word: a list without a gap, made anew by each change.
type model struct {
	text  []rune
	point int
	mark  int
}

func (m *model) replace(from, to int, l []rune) (api.Edit, api.Errno) {
	if from < 0 || from > len(m.text) || to < 0 || to > len(m.text) || to < from {
		return api.Edit{}, 70
	}
	next := slices.Concat(m.text[:from], l, m.text[to:])
	if len(next) > 1024 {
		return api.Edit{}, 3
	}
	e := api.Edit{At: from, Del: m.text[from:to], Ins: l}
	grown := len(next) - len(m.text)
	switch {
	case m.point < from:
	case m.point <= to:
		m.point = from + len(l)
	default:
		m.point += grown
	}
	switch {
	case m.mark > to:
		m.mark += grown
	case m.mark > from && m.mark <= to:
		m.mark = from
	}
	m.text = next
	return e, 0
}

func (m *model) apply(e api.Edit) api.Errno {
	if e.At < 0 || e.At > len(m.text) {
		return 70
	}
	rest := m.text[e.At:]
	if len(e.Del) > len(rest) || !slices.Equal(rest[:len(e.Del)], e.Del) {
		return 71
	}
	_, err := m.replace(e.At, e.At+len(e.Del), e.Ins)
	return err
}

func (m *model) move(at int) api.Errno {
	if at < 0 || at > len(m.text) {
		return 70
	}
	m.point = at
	return 0
}

func (m *model) setMark(at int) api.Errno {
	if at < -1 || at > len(m.text) {
		return 70
	}
	m.mark = at
	return 0
}

func (m *model) swap() api.Errno {
	if m.mark < 0 {
		return 6
	}
	m.point, m.mark = m.mark, m.point
	return 0
}

// pair is a buffer and what it should be.
type pair struct {
	b *Buffer
	m *model
}

func newPair(t *testing.T, l []rune, point, mark int) pair {
	t.Helper()
	return pair{with(t, l, point, mark), &model{slices.Clone(l), point, mark}}
}

// check: the state, and P7.7.
func (p pair) check(t *testing.T, what string) {
	t.Helper()
	l := p.b.Line()
	if !slices.Equal(l.Text, p.m.text) || l.Point != p.m.point || l.Mark != p.m.mark {
		t.Fatalf("%s: %v, not %v", what, l, p.m)
	}
	if n := len(l.Text); n > api.MaxLine || l.Point < 0 || l.Point > n || l.Mark < -1 || l.Mark > n {
		t.Fatalf("%s: point %d and mark %d of %d", what, l.Point, l.Mark, n)
	}
	if !slices.Equal(p.b.Text(), l.Text) || p.b.Len() != len(l.Text) || p.b.Point() != l.Point || p.b.Mark() != l.Mark {
		t.Fatalf("%s: Text, Len, Point and Mark are not those of Line", what)
	}
}

func (p pair) replace(t *testing.T, from, to int, l []rune) api.Edit {
	t.Helper()
	what := "Replace(" + strconv.Itoa(from) + ", " + strconv.Itoa(to) + ") by " + strconv.Itoa(len(l))
	got, err := p.b.Replace(from, to, l...)
	want, wantErr := p.m.replace(from, to, l)
	if err != wantErr || !sameEdit(got, want) {
		t.Fatalf("%s: %v, %d, not %v, %d", what, got, err, want, wantErr)
	}
	p.check(t, what)
	return got
}

// TestModelShort: each change of each short line with each point and mark.
func TestModelShort(t *testing.T) {
	for n := range 5 {
		for point := range n + 1 {
			for mark := -1; mark <= n; mark++ {
				for from := -1; from <= n+1; from++ {
					for to := -1; to <= n+1; to++ {
						for ins := range 4 {
							p := newPair(t, []rune("abcde")[:n], point, mark)
							p.replace(t, from, to, []rune("xyz")[:ins])
						}
					}
				}
			}
		}
	}
}

// step does something to both; what, from and to choose it.
func (p pair) step(t *testing.T, what, from, to int, l []rune, last api.Edit) api.Edit {
	t.Helper()
	err, want := api.OK, api.OK
	switch what % 10 {
	case 0, 1, 2:
		return p.replace(t, from, to, l)
	case 3:
		at := p.m.point
		got, err := p.b.Insert(l...)
		want, wantErr := p.m.replace(at, at, l)
		if err != wantErr || !sameEdit(got, want) {
			t.Fatalf("Insert: %v, %d, not %v, %d", got, err, want, wantErr)
		}
		last = got
	case 4:
		got, err := p.b.Delete(from, to)
		want, wantErr := p.m.replace(from, to, nil)
		if err != wantErr || !sameEdit(got, want) {
			t.Fatalf("Delete: %v, %d, not %v, %d", got, err, want, wantErr)
		}
		last = got
	case 5:
		err, want = p.b.Apply(last), p.m.apply(last)
	case 6:
		err, want = p.b.Apply(Reverse(last)), p.m.apply(api.Edit{At: last.At, Del: last.Ins, Ins: last.Del})
	case 7:
		err, want = p.b.Move(from), p.m.move(from)
	case 8:
		err, want = p.b.SetMark(to), p.m.setMark(to)
	case 9:
		err, want = p.b.Swap(), p.m.swap()
	}
	if err != want {
		t.Fatalf("step %d with %d and %d: %d, not %d", what, from, to, err, want)
	}
	p.check(t, "step "+strconv.Itoa(what))
	return last
}

// TestModelWalk: many steps, in short lines and in lines that are nearly full; clones take part.
func TestModelWalk(t *testing.T) {
	random := rand.New(rand.NewPCG(7, 7))
	for walk := range 60 {
		have := []int{0, 3, 20, api.MaxLine / 2, api.MaxLine - 3, api.MaxLine}[walk%6]
		p := newPair(t, fullLine()[:have], have/2, -1)
		var last api.Edit
		for range 400 {
			n := len(p.m.text)
			from := random.IntN(n+5) - 2
			to := random.IntN(n+5) - 2
			if random.IntN(3) > 0 {
				to = from + random.IntN(4)
			}
			l := make([]rune, random.IntN(5))
			if random.IntN(20) == 0 {
				l = make([]rune, random.IntN(api.MaxLine+9))
			}
			for i := range l {
				l[i] = rune(random.IntN(1 << 20))
			}
			last = p.step(t, random.IntN(10), from, to, l, last)
			if random.IntN(10) == 0 {
				left := p.b
				p.b = left.Clone()
				left.Delete(0, left.Len())
				p.check(t, "a clone")
			}
		}
	}
}

// FuzzEdit takes five bytes for a step.
func FuzzEdit(f *testing.F) {
	f.Add("hello", []byte{3, 0, 0, 2, 97, 4, 3, 6, 0, 0, 6, 0, 0, 0, 0})
	f.Add("", []byte{0, 2, 2, 200, 1, 8, 9, 9, 0, 0, 9, 0, 0, 0, 0, 2, 2, 60, 9, 9, 5, 0, 0, 0, 0})
	f.Fuzz(func(t *testing.T, text string, steps []byte) {
		l := []rune(text)
		if len(l) > api.MaxLine {
			l = l[:api.MaxLine]
		}
		p := newPair(t, l, len(l), -1)
		var last api.Edit
		for s := range slices.Chunk(steps, 5) {
			if len(s) < 5 {
				return
			}
			ins := slices.Repeat([]rune{rune(s[4])}, int(s[3])*int(s[3])/16)
			last = p.step(t, int(s[0]), int(s[1])-2, int(s[2])-2, ins, last)
		}
	})
}

// TestManyEdits: THE BOUND, many changes of a full line.
func TestManyEdits(t *testing.T) {
	b := with(t, fullLine(), 0, -1)
	for i := range 100000 {
		from := i * 37 % api.MaxLine
		if _, err := b.Replace(from, from+1, rune(i)); err != api.OK {
			t.Fatal(err)
		}
	}
	if b.Len() != api.MaxLine {
		t.Error(b.Len())
	}
}
