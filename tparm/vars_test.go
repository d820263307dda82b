package tparm

import (
	"testing"

	"lanyard/api"
)

func isLetterByte(b int) bool { return b >= 'a' && b <= 'z' || b >= 'A' && b <= 'Z' }

// wantVars asks for the value of every byte; all others have the number 0.
func wantVars(t *testing.T, v *Vars, want map[byte]api.Param) {
	t.Helper()
	for b := range allBytes {
		if got := v.Get(byte(b)); got != want[byte(b)] {
			t.Errorf("%q contains %v, not %v", rune(b), got, want[byte(b)])
		}
	}
}

func wantSet(t *testing.T, v *Vars, letter byte, p api.Param, want api.Errno) {
	t.Helper()
	if err := v.Set(letter, p); err != want {
		t.Errorf("Set of %q to %v returns %d, not %d", letter, p, err, want)
	}
}

// TestVars: P4.2 (NewVars, Get, Set), each letter by itself.
func TestVars(t *testing.T) {
	wantVars(t, NewVars(), nil)
	v := NewVars()
	want := map[byte]api.Param{}
	for b := range allBytes {
		if !isLetterByte(b) {
			wantSet(t, v, byte(b), Num(1), api.ErrArg)
			continue
		}
		want[byte(b)] = Num(b)
		wantSet(t, v, byte(b), Num(b), api.OK)
	}
	wantVars(t, v, want)
	for _, p := range args(0, -1<<31, "", "\x00\xff") {
		wantSet(t, v, 'k', p, api.OK)
		want['k'] = p
		wantVars(t, v, want)
	}
	wantVars(t, NewVars(), nil)
}

// TestSetWrong: P4.2 (Set), what is no value; the variable keeps what it contains.
func TestSetWrong(t *testing.T) {
	v := NewVars()
	wantSet(t, v, 'a', Num(7), api.OK)
	for _, p := range []api.Param{{Num: 1, Is: true}, {Num: -1, Text: "a", Is: true}, {Text: "a"}, {Num: 1, Text: "a"}} {
		wantSet(t, v, 'a', p, api.ErrArg)
		wantSet(t, v, 'b', p, api.ErrArg)
		wantSet(t, v, '1', p, api.ErrArg)
	}
	wantVars(t, v, map[byte]api.Param{'a': Num(7)})
}

// TestClone: P4.2 (Clone), that both change by themselves, by Set and by Run.
func TestClone(t *testing.T) {
	v := NewVars()
	wantSet(t, v, 'a', Num(1), api.OK)
	wantSet(t, v, 'Z', Text("z"), api.OK)
	c := v.Clone()
	wantVars(t, c, map[byte]api.Param{'a': Num(1), 'Z': Text("z")})
	wantSet(t, v, 'a', Num(2), api.OK)
	wantRunOn(t, c, "1", "%ga%d%{3}%Pb")
	wantRunOn(t, v, "20", "%ga%d%gb%d%{4}%PZ")
	wantVars(t, v, map[byte]api.Param{'a': Num(2), 'Z': Num(4)})
	wantVars(t, c, map[byte]api.Param{'a': Num(1), 'Z': Text("z"), 'b': Num(3)})
	empty := NewVars().Clone()
	wantSet(t, empty, 'q', Num(1), api.OK)
	wantVars(t, empty, map[byte]api.Param{'q': Num(1)})
}

// TestZeroVars: R5 for Vars.
func TestZeroVars(t *testing.T) {
	for _, v := range []*Vars{nil, {}} {
		wantVars(t, v, nil)
		wantSet(t, v, 'a', Num(1), api.ErrMade)
		wantSet(t, v, '1', api.Param{Text: "a"}, api.ErrMade)
		wantVars(t, v, nil)
		c := v.Clone()
		if c != nil {
			t.Error("Clone returns variables")
		}
		wantSet(t, c, 'a', Num(1), api.ErrMade)
	}
}
