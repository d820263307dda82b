package undo

import (
	"math/rand/v2"
	"slices"
	"strconv"
	"testing"

	"lanyard/api"
)

// model is the chapter word by word: groups, and what was added to open ones.
type model struct {
	groups [][]api.Edit
	added  []api.Edit
	open   int
}

func (m *model) closeAll() {
	if len(m.added) > 0 {
		m.groups = append(m.groups, m.added)
	}
	m.added, m.open = nil, 0
}

func (m *model) end() api.Errno {
	switch m.open {
	case 0:
		return 1
	case 1:
		m.closeAll()
	default:
		m.open--
	}
	return 0
}

func (m *model) edits() int {
	n := len(m.added)
	for _, g := range m.groups {
		n += len(g)
	}
	return n
}

func (m *model) add(e api.Edit) api.Errno {
	switch {
	case len(e.Del)+len(e.Ins) == 0 || e.At < 0:
		return 1
	case m.edits() >= 16384:
		return 3
	case m.open > 0:
		m.added = append(m.added, e)
	default:
		m.groups = append(m.groups, []api.Edit{e})
	}
	return 0
}

func inverted(group []api.Edit) []api.Edit {
	var all []api.Edit
	for i := len(group) - 1; i >= 0; i-- {
		all = append(all, api.Edit{At: group[i].At, Del: group[i].Ins, Ins: group[i].Del})
	}
	return all
}

func (m *model) undo() ([]api.Edit, api.Errno) {
	if len(m.groups) == 0 && len(m.added) == 0 {
		return nil, 6
	}
	m.closeAll()
	last := m.groups[len(m.groups)-1]
	m.groups = m.groups[:len(m.groups)-1]
	return inverted(last), 0
}

func (m *model) revert() []api.Edit {
	m.closeAll()
	all := inverted(slices.Concat(m.groups...))
	m.groups = nil
	return all
}

// yielded are the groups in the order of Groups.
func (m *model) yielded() [][]api.Edit {
	all := slices.Clone(m.groups)
	if len(m.added) > 0 {
		all = append(all, m.added)
	}
	slices.Reverse(all)
	return all
}

func (m *model) clone() *model {
	return &model{slices.Clone(m.groups), slices.Clone(m.added), m.open}
}

func sameEdits(a, b []api.Edit) bool { return slices.EqualFunc(a, b, sameEdit) }

// pair is a list and what it should be.
type pair struct {
	l *List
	m *model
}

func newPair() pair { return pair{New(), &model{}} }

func (p pair) clone() pair { return pair{p.l.Clone(), p.m.clone()} }

func (p pair) check(t *testing.T, what string) {
	t.Helper()
	want := p.m.yielded()
	if p.l.Len() != len(want) || p.l.Edits() != p.m.edits() || p.l.Open() != p.m.open {
		t.Fatalf("%s: Len %d, Edits %d, Open %d, not %d, %d, %d", what, p.l.Len(), p.l.Edits(), p.l.Open(), len(want), p.m.edits(), p.m.open)
	}
	if got := slices.Collect(p.l.Groups()); !slices.EqualFunc(got, want, sameEdits) {
		t.Fatalf("%s: Groups %v, not %v", what, got, want)
	}
}

func (p pair) wantEdits(t *testing.T, what string, got, want []api.Edit, err, wantErr api.Errno) {
	t.Helper()
	if err != wantErr || !sameEdits(got, want) {
		t.Fatalf("%s: %v, %d, not %v, %d", what, got, err, want, wantErr)
	}
}

// The steps of a walk; those from stepAdd on add the edit.
const (
	stepBegin = iota
	stepEnd
	stepUndo
	stepRevert
	stepClear
	stepAdd
)

// step does something to both.
func (p pair) step(t *testing.T, kind int, e api.Edit) {
	t.Helper()
	what := "step " + strconv.Itoa(kind)
	switch kind {
	case stepBegin:
		wantErr(t, what, p.l.Begin(), api.OK)
		p.m.open++
	case stepEnd:
		wantErr(t, what, p.l.End(), p.m.end())
	case stepUndo:
		got, err := p.l.Undo()
		want, wantErr := p.m.undo()
		p.wantEdits(t, what, got, want, err, wantErr)
	case stepRevert:
		p.wantEdits(t, what, p.l.Revert(), p.m.revert(), api.OK, api.OK)
	case stepClear:
		p.l.Clear()
		*p.m = model{}
	default:
		wantErr(t, what, p.l.Add(e), p.m.add(e))
	}
	p.check(t, what)
}

// TestModelShort: every sequence of a few steps.
func TestModelShort(t *testing.T) {
	var try func(p pair, left int)
	try = func(p pair, left int) {
		if left == 0 {
			return
		}
		for kind := stepBegin; kind <= stepAdd; kind++ {
			next := p.clone()
			next.step(t, kind, edit(left, "", strconv.Itoa(left)))
			try(next, left-1)
		}
		p.check(t, "a list whose clones were changed")
	}
	try(newPair(), 6)
}

// randomEdit is an edit that Add mostly accepts.
func randomEdit(random *rand.Rand) api.Edit {
	e := api.Edit{At: random.IntN(30) - 1}
	for range random.IntN(4) {
		e.Del = append(e.Del, rune(random.IntN(1<<20)))
	}
	for range random.IntN(4) {
		e.Ins = append(e.Ins, rune(random.IntN(1<<20)))
	}
	return e
}

// TestModelWalk: many steps; clones take part, some walks begin with a list that is nearly full.
func TestModelWalk(t *testing.T) {
	random := rand.New(rand.NewPCG(8, 8))
	for walk := range 200 {
		p := newPair()
		steps := 300
		if walk%20 == 0 {
			steps = 30
			p.l.Begin()
			p.m.open++
			for range api.MaxUndo - 5 {
				e := edit(0, "", "x")
				p.l.Add(e)
				p.m.added = append(p.m.added, e)
			}
		}
		for range steps {
			kind := random.IntN(12)
			if kind == stepRevert || kind == stepClear {
				kind += random.IntN(8)
			}
			p.step(t, kind, randomEdit(random))
			if random.IntN(10) == 0 {
				left := p
				p = p.clone()
				left.step(t, random.IntN(9), edit(3, "left", ""))
				p.check(t, "a clone")
			}
		}
	}
}

// FuzzList takes three bytes for a step.
func FuzzList(f *testing.F) {
	f.Add([]byte{5, 0, 'a', 0, 0, 0, 5, 1, 'b', 5, 2, 'c', 1, 0, 0, 2, 0, 0, 2, 0, 0, 2, 0, 0})
	f.Add([]byte{0, 0, 0, 0, 0, 0, 6, 1, 'b', 2, 0, 0, 1, 0, 0, 7, 200, 'x', 3, 0, 0, 8, 255, 'y', 4, 0, 0})
	f.Fuzz(func(t *testing.T, steps []byte) {
		p := newPair()
		for s := range slices.Chunk(steps, 3) {
			if len(s) < 3 {
				return
			}
			e := api.Edit{At: int(s[1]) - 1, Ins: []rune{rune(s[2])}}
			if s[0] >= 128 {
				e.Del, e.Ins = e.Ins, nil
			}
			p.step(t, int(s[0]%128), e)
		}
	})
}

// noted is a line, and what it was before each group of its list and before all.
type noted struct {
	line   []rune
	before [][]rune
}

// change applies e and adds it, as P8.5 says.
func (n *noted) change(t *testing.T, l *List, e api.Edit) {
	t.Helper()
	after, err := Apply(n.line, e)
	if err != api.OK || len(e.Del)+len(e.Ins) == 0 {
		return
	}
	groups := l.Len()
	wantErr(t, "Add", l.Add(e), api.OK)
	if l.Len() > groups {
		n.before = append(n.before, n.line)
	}
	n.line = after
}

// undo applies what takes edits back, and wants the line before the groups from the n-th on.
func (n *noted) undo(t *testing.T, back []api.Edit, group int) {
	t.Helper()
	for _, e := range back {
		line, err := Apply(n.line, e)
		wantErr(t, "Apply of an inverse", err, api.OK)
		n.line = line
	}
	if !slices.Equal(n.line, n.before[group]) {
		t.Fatalf("undone: %q, not %q", string(n.line), string(n.before[group]))
	}
	n.before = n.before[:group]
}

// TestUndoing: P8.5, lines of all lengths, edits that fit them and such as do not, in any groups.
func TestUndoing(t *testing.T) {
	random := rand.New(rand.NewPCG(8, 5))
	for walk := range 300 {
		n := noted{line: counted([]int{0, 1, 10, 500, 1020, 1024}[walk%6])}
		l := New()
		for range 100 {
			switch random.IntN(8) {
			case 0:
				l.Begin()
			case 1:
				l.End()
			case 2:
				if back, err := l.Undo(); err == api.OK {
					n.undo(t, back, len(n.before)-1)
				}
			default:
				n.change(t, l, fitting(random, n.line))
			}
		}
		if walk%2 == 0 && len(n.before) > 0 {
			n.undo(t, l.Revert(), 0)
		}
		for len(n.before) > 0 {
			back, err := l.Undo()
			wantErr(t, "Undo", err, api.OK)
			n.undo(t, back, len(n.before)-1)
		}
		wantNoUndo(t, l, api.ErrBell)
	}
}

// fitting is an edit of line that mostly fits it.
func fitting(random *rand.Rand, line []rune) api.Edit {
	e := randomEdit(random)
	if e.At = random.IntN(len(line) + 1); random.IntN(10) > 0 {
		e.Del = line[e.At:min(e.At+random.IntN(5), len(line))]
	}
	return e
}

// TestManyEdits: THE BOUND, lists that are filled and emptied, or cloned and gone through, many times.
func TestManyEdits(t *testing.T) {
	l := New()
	for round := range 60 {
		if round%2 == 0 {
			l.Begin()
		}
		for i := range api.MaxUndo {
			if err := l.Add(edit(i, "", "x")); err != api.OK {
				t.Fatal(err)
			}
		}
		edits := len(l.Revert())
		if edits != api.MaxUndo || l.Open() != 0 {
			t.Fatal(edits, l.Open())
		}
	}
	l = full(t, "")
	for i := range api.MaxUndo {
		if _, err := l.Undo(); err != api.OK || l.Len() != api.MaxUndo-1-i {
			t.Fatal(err, l.Len())
		}
	}
	l = full(t, "")
	for range 50 {
		c := l.Clone()
		edits := 0
		for g := range c.Groups() {
			edits += len(g)
		}
		if edits != c.Edits() {
			t.Fatal(edits)
		}
	}
}
