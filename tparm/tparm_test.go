package tparm

import (
	"slices"
	"strings"
	"testing"

	"lanyard/api"
)

const allBytes = 256

// args makes values of ints and strings.
func args(l ...any) []api.Param {
	var params []api.Param
	for _, x := range l {
		switch x := x.(type) {
		case int:
			params = append(params, Num(x))
		case string:
			params = append(params, Text(x))
		}
	}
	return params
}

// wantRun runs a capability with new variables, which it returns.
func wantRun(t *testing.T, want, s string, params ...api.Param) *Vars {
	t.Helper()
	v := NewVars()
	wantRunOn(t, v, want, s, params...)
	return v
}

func wantRunOn(t *testing.T, v *Vars, want, s string, params ...api.Param) {
	t.Helper()
	if got, at, err := New(s).Run(v, params...); got != want || at != 0 || err != api.OK {
		t.Errorf("%.60q with %.200v returns %.60q, %d, %d, not %.60q", s, params, got, at, err, want)
	}
}

// wantFail runs a capability that goes too far, with new variables, which it returns.
func wantFail(t *testing.T, at int, err api.Errno, s string, params ...api.Param) *Vars {
	t.Helper()
	v := NewVars()
	if got, gotAt, gotErr := New(s).Run(v, params...); got != "" || gotAt != at || gotErr != err {
		t.Errorf("%.60q with %.200v returns %.60q, %d, %d, not %d, %d", s, params, got, gotAt, gotErr, at, err)
	}
	return v
}

func wantCheck(t *testing.T, s string, at int, err api.Errno) {
	t.Helper()
	if gotAt, gotErr := New(s).Check(); gotAt != at || gotErr != err {
		t.Errorf("Check of %.60q returns %d, %d, not %d, %d", s, gotAt, gotErr, at, err)
	}
}

// TestExamples: the examples of the chapter.
func TestExamples(t *testing.T) {
	wantCheck(t, "50%", 2, api.ErrParm)
	wantRun(t, "0a", "%p1%02x", Num(10))
	wantRun(t, "0", "%{1}%{0}%/%d")
	wantRun(t, "5   |+5|05", "%p1%:-4d|%p1%:+d|%p1%#o", Num(5))
	wantRun(t, "49x%", "%p1%Pa%ga%ga%*%d%'x'%c%%", Num(-7))
	wantRun(t, "3ab", "%p1%l%d%p1%.2s", Text("abc"))
	wantRun(t, "\x1b[5;10H", "\x1b[%i%p1%d;%p2%dH", args(4, 9)...)
	for n, want := range map[int]string{3: "33m", 7: "37m", 8: "8m", 9: "9m"} {
		wantRun(t, want, "%?%p1%{8}%<%t3%p1%d%e%p1%d%;m", Num(n))
	}
	wantRun(t, "33m", "%?%p1%{8}%<%t3%p1%d%e9%;m", Num(3))
	wantRun(t, "9m", "%?%p1%{8}%<%t3%p1%d%e9%;m", Num(9))
	wantStrip(t, "ab$<5*/>c", 3, "abc", 150)
}

// TestCheckValid: P4.1 (Check), every sequence there is.
func TestCheckValid(t *testing.T) {
	wantCheck(t, "", 0, api.OK)
	wantCheck(t, "plain \x00\xff\x80 text 100", 0, api.OK)
	for _, s := range []string{
		"%%", "%c", "%i", "%l", "%+", "%-", "%*", "%/", "%m", "%&", "%|", "%^", "%=", "%>", "%<", "%A", "%O", "%!", "%~", "%?", "%t", "%e", "%;",
		"%p1", "%p5", "%p9", "%Pa", "%Pz", "%PA", "%PZ", "%ga", "%gz", "%gA", "%gZ",
		"%'a'", "%'''", "%'%'", "%'\x00'", "%'\xff'", "%{0}", "%{-0}", "%{9}", "%{123456789}", "%{-123456789}", "%{000000001}", "%{-000000001}",
		"%d", "%o", "%x", "%X", "%s", "%:d", "%:s", "%5d", "%1000d", "%1000s", "%.d", "%.0d", "%.1000d", "%.01000d", "%.00000000000000000000000001x", "%1000.1000X",
		"%00000000000000000000000001000d", "%0d", "%#x", "% d", "%# 0# 0o", "%:-d", "%:+d", "%:-+# 0d", "%:0-5.3d", "%: 0#+-- 12.s", "%:5d", "%:.3s", "%010.10s",
	} {
		wantCheck(t, s, 0, api.OK)
		wantCheck(t, "ab"+s+"cd", 0, api.OK)
	}
}

// TestCheckInvalid: P4.1 (Check), what is no sequence, each at the end of the string and ahead of more, also where a condition would skip it.
func TestCheckInvalid(t *testing.T) {
	for _, s := range []string{
		"%", "%p", "%P", "%g", "%'", "%{", "%:", "%5", "%.", "%5.", "%#", "% ", "%0", "%:-", "%.5", "%'a", "%{1", "%{-",
	} {
		wantCheck(t, s, 0, api.ErrParm)
		wantCheck(t, "%%a"+s, 3, api.ErrParm)
		wantCheck(t, "%?%{0}%t"+s, 8, api.ErrParm)
	}
	for _, s := range []string{
		"%\x00", "%a", "%D", "%n", "%u", "%f", "%C", "%I", "%L", "%S", "%T", "%E", "%M", "%(", "%)", "%\"", "%,", "%[", "%\\", "%]", "%_", "%`", "%}", "%@", "%\n", "%\x7f", "%\x80", "%\xff", "%é",
		"%p0", "%pa", "%p%", "%p:", "%P1", "%P@", "%P[", "%P`", "%P{", "%P\xe9", "%g0", "%g%", "%g_",
		"%''a", "%'ab'", "%'aa", "%'é'", "%{}", "%{-}", "%{a}", "%{1a}", "%{+1}", "%{--1}", "%{ 1}", "%{1 }", "%{1.0}", "%{1-}", "%{1234567890}", "%{0000000000}", "%{-1234567890}", "%{99999999999999999999999999}", "%{%d}",
		"%::d", "%:%", "%:c", "%:p1", "%:=", "%5c", "%5%", "%5i", "%5:d", "%0-5d", "%0+d", "%#+d", "%# -d", "% +d", "%5-d", "%:5-d", "%:5+d", "%5#d", "%5 d", "%.#d", "%.-5d", "%.+5d", "%.5.5d", "%..d", "%5.3#d", "%.5c", "%5D", "%5O", "%5u", "%hd", "%5*d",
		"%1001d", "%01001d", "%.1001d", "%5.1001d", "%:-1001s", "%.00001001s", "%99999999999999999999999999999999d", "%.99999999999999999999999999999999x",
	} {
		wantCheck(t, s, 0, api.ErrParm)
		wantCheck(t, s+"}d'", 0, api.ErrParm)
		wantCheck(t, "%%a"+s+"%", 3, api.ErrParm)
		wantCheck(t, "%?%{0}%t"+s+"%;", 8, api.ErrParm)
		wantFail(t, 1, api.ErrParm, "x"+s, args(1, 2)...)
	}
}

// TestCheckEveryByte: P4.1 (Check), what each byte means behind a %.
func TestCheckEveryByte(t *testing.T) {
	alone, more := "%cidoxXsl+-*/m&|^=><AO!~?te;", "pPg'{:.# 0123456789"
	for b := range allBytes {
		s := "%" + string([]byte{byte(b)})
		switch {
		case strings.IndexByte(alone, byte(b)) >= 0:
			wantCheck(t, s, 0, api.OK)
		case strings.IndexByte(more, byte(b)) >= 0:
			wantCheck(t, s, 0, api.ErrParm)
			ends := 0
			for _, end := range []string{"1", "a", "a'", "1}", "d"} {
				if _, err := New(s + end).Check(); err == api.OK {
					ends++
				}
			}
			if ends == 0 {
				t.Errorf("%q does not begin anything", s)
			}
		default:
			for _, end := range []string{"", "1", "a", "a'", "1}", "d"} {
				wantCheck(t, s+end, 0, api.ErrParm)
			}
		}
	}
}

// TestCheckLong: P4.1 (Check), the longest string, and that one that is longer is not examined.
func TestCheckLong(t *testing.T) {
	longest := strings.Repeat("x", 4096)
	wantCheck(t, longest, 0, api.OK)
	wantRun(t, longest, longest)
	wantCheck(t, longest[1:]+"%", 4095, api.ErrParm)
	wantCheck(t, longest+"x", 0, api.ErrLong)
	wantCheck(t, longest+"%", 0, api.ErrLong)
	wantCheck(t, strings.Repeat("%i", 2049), 0, api.ErrLong)
	wantFail(t, 0, api.ErrLong, longest+"x")
	wantFail(t, 0, api.ErrLong, "%"+longest)
	if used := New("%p3%i" + longest).Used(); used != 0 {
		t.Error("Used", used)
	}
}

// TestUsed: P4.1 (Used).
func TestUsed(t *testing.T) {
	for s, want := range map[string]int{
		"": 0, "abc": 0, "p5": 0, "%%p5": 0, "%'p'5": 0, "%d%{9}%gp": 0,
		"%p1": 1, "%p9": 9, "%p3%p7%p2": 7, "%p2%p2": 2,
		"%i": 2, "%i%p1": 2, "%p1%i": 2, "%i%p2": 2, "%i%p3": 3, "%p4%i": 4,
		"%?%{0}%t%p6%;": 6, "%?%t%i%;": 2, "i%%i": 0, "%'i'": 0,
		"%p8%": 0, "%i%q": 0, "%q%p3": 0, "%p0": 0,
	} {
		if got := New(s).Used(); got != want {
			t.Errorf("Used of %q returns %d, not %d", s, got, want)
		}
	}
}

// TestNumText: what Num and Text return.
func TestNumText(t *testing.T) {
	for n, want := range map[int]int32{
		0: 0, 1: 1, -1: -1, 1<<31 - 1: 1<<31 - 1, 1 << 31: -1 << 31, -1 << 31: -1 << 31, -1<<31 - 1: 1<<31 - 1,
		1 << 32: 0, 1<<32 + 5: 5, 1<<63 - 1: -1, -1 << 63: 0, 0x123456789: 0x23456789,
	} {
		if got := Num(n); got != (api.Param{Num: want}) {
			t.Errorf("Num of %d returns %v", n, got)
		}
	}
	for _, s := range []string{"", "abc", "\x00\xff"} {
		if got := Text(s); got != (api.Param{Text: s, Is: true}) {
			t.Errorf("Text of %q returns %v", s, got)
		}
	}
}

// TestZeroCap: R5 for a Cap, which comes before what is wrong with the other arguments.
func TestZeroCap(t *testing.T) {
	for _, c := range []*Cap{nil, {}} {
		if at, err := c.Check(); at != 0 || err != api.ErrMade {
			t.Error("Check", at, err)
		}
		for _, v := range []*Vars{nil, {}, NewVars()} {
			if s, at, err := c.Run(v, make([]api.Param, 10)...); s != "" || at != 0 || err != api.ErrMade {
				t.Error("Run", s, at, err)
			}
		}
		if used := c.Used(); used != 0 {
			t.Error("Used", used)
		}
	}
}

// TestRunErrors: P4.2 (Run), the errors of its arguments in their order, and that nothing is evaluated then.
func TestRunErrors(t *testing.T) {
	for _, v := range []*Vars{nil, {}} {
		for s, want := range map[string]api.Errno{"": api.ErrMade, "%p1%Pa": api.ErrMade, "a%": api.ErrParm, strings.Repeat("%", 4097): api.ErrLong} {
			for _, params := range [][]api.Param{nil, {{Num: 1, Is: true}}, make([]api.Param, 10)} {
				at := 0
				if want == api.ErrParm {
					at = 1
				}
				if got, gotAt, err := New(s).Run(v, params...); got != "" || gotAt != at || err != want {
					t.Errorf("%.20q returns %q, %d, %d, not %d", s, got, gotAt, err, want)
				}
			}
		}
	}
	wantRun(t, "123456789", "%p1%d%p2%d%p3%d%p4%d%p5%d%p6%d%p7%d%p8%d%p9%d", args(1, 2, 3, 4, 5, 6, 7, 8, 9)...)
	odd := []api.Param{{Num: 1, Is: true}, {Num: -1, Text: "a", Is: true}, {Text: "a"}, {Num: 1, Text: "a"}}
	for _, p := range odd {
		for at := range 9 {
			params := make([]api.Param, 9)
			params[at] = p
			v := wantFail(t, 0, api.ErrArg, "%{1}%Pa", params...)
			if v.Get('a') != Num(0) {
				t.Error("Run of a parameter that is no value sets a variable")
			}
			wantFail(t, 2, api.ErrParm, "aa%", params...)
		}
	}
	v := wantFail(t, 0, api.ErrArg, "%{1}%Pa", make([]api.Param, 10)...)
	if v.Get('a') != Num(0) {
		t.Error("Run of ten parameters sets a variable")
	}
	wantFail(t, 0, api.ErrArg, "", make([]api.Param, 1000)...)
	wantFail(t, 1, api.ErrParm, "a%", make([]api.Param, 10)...)
}

// TestRunKeepsNothing: R3, that parameters stay as they are, also behind an i, and that a capability runs again as if for the first time.
func TestRunKeepsNothing(t *testing.T) {
	params := args(4, 9, 1, "x", 5)
	before := slices.Clone(params)
	c := New("%i%i%p1%d;%p2%d;%p3%d%p4%s%Pa%?%{0}%t")
	for range 3 {
		if got, at, err := c.Run(NewVars(), params[:4]...); got != "6;11;1x" || at != 0 || err != api.OK {
			t.Error(got, at, err)
		}
		if !slices.Equal(params, before) {
			t.Fatal("Run changes its parameters:", params)
		}
	}
	if used := c.Used(); used != 4 {
		t.Error("Used", used)
	}
	wantCheck(t, "%i", 0, api.OK)
}
