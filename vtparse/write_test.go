package vtparse

import (
	"math"
	"math/rand/v2"
	"slices"
	"strings"
	"testing"
	"unicode/utf8"

	"lanyard/api"
)

func wantWrite(t *testing.T, want string, a api.Action) {
	t.Helper()
	if b, err := Write(a); string(b) != want || err != api.OK {
		t.Errorf("Write(%+v) = %q, %d, not %q", a, b, err, want)
	}
	wantAll(t, want, a)
}

func wantNoWrite(t *testing.T, a api.Action) {
	t.Helper()
	if b, err := Write(a); b != nil || err != api.ErrArg {
		t.Errorf("Write(%+v) = %q, %d", a, b, err)
	}
}

// TestWritePrint: P5.3 (Write), every rune and values that are none.
func TestWritePrint(t *testing.T) {
	for r := rune(-2); r < 0x110010; r++ {
		b, err := Write(api.Action{Kind: api.ActPrint, Rune: r})
		if r < 0x20 || r >= 0x7f && r < 0xa0 || !utf8.ValidRune(r) {
			if b != nil || err != api.ErrArg {
				t.Fatalf("%x: %q, %d", r, b, err)
			}
		} else if string(b) != string(r) || err != api.OK {
			t.Fatalf("%x: %q, %d", r, b, err)
		}
	}
	wantNoWrite(t, api.Action{Kind: api.ActPrint, Rune: math.MaxInt32})
	wantNoWrite(t, api.Action{Kind: api.ActPrint, Rune: math.MinInt32})
}

// TestWriteExecute: P5.3 (Write), every byte.
func TestWriteExecute(t *testing.T) {
	for b := range 256 {
		a := execs(byte(b))[0]
		if b < 0x20 && b != 0x1b {
			wantWrite(t, string([]byte{byte(b)}), a)
		} else {
			wantNoWrite(t, a)
		}
	}
}

// TestWriteEsc: P5.3 (Write), every Final, and each kind of Inter.
func TestWriteEsc(t *testing.T) {
	for b := range 256 {
		s := string([]byte{byte(b)})
		alone := api.Action{Kind: api.ActEsc, Final: byte(b)}
		with := api.Action{Kind: api.ActEsc, Inter: "#", Final: byte(b)}
		inter := api.Action{Kind: api.ActEsc, Inter: s, Final: '8'}
		final := b >= 0x30 && b < 0x7f
		for _, c := range []struct {
			is   bool
			want string
			a    api.Action
		}{
			{final && !strings.Contains("[]PX^_\\", s), "\x1b" + s, alone},
			{final, "\x1b#" + s, with},
			{b >= 0x20 && b < 0x30, "\x1b" + s + "8", inter},
		} {
			if c.is {
				wantWrite(t, c.want, c.a)
			} else {
				wantNoWrite(t, c.a)
			}
		}
	}
	wantWrite(t, "\x1b#!8", api.Action{Kind: api.ActEsc, Inter: "#!", Final: '8'})
	wantNoWrite(t, api.Action{Kind: api.ActEsc, Inter: "#!#", Final: '8'})
	wantNoWrite(t, api.Action{Kind: api.ActEsc})
}

// TestWriteCsi: P5.3 (Write), every Final and Private, parameters of all kinds.
func TestWriteCsi(t *testing.T) {
	wantWrite(t, "\x1b[5;H", csi('H', 5, -1))
	wantWrite(t, "\x1b[H", csi('H'))
	wantWrite(t, "\x1b[0H", csi('H', 0))
	wantWrite(t, "\x1b[;H", csi('H', -1, -1))
	wantWrite(t, "\x1b[;;7H", csi('H', -1, -1, 7))
	wantWrite(t, "\x1b[65535;10;0m", csi('m', 65535, 10, 0))
	wantWrite(t, "\x1b[?25;7$!p", api.Action{Kind: 4, Private: '?', Params: []int{25, 7}, Inter: "$!", Final: 'p'})
	wantWrite(t, "\x1b["+strings.Repeat("3;", 15)+"3m", csi('m', slices.Repeat([]int{3}, 16)...))
	wantWrite(t, "\x1b["+strings.Repeat(";", 15)+"m", csi('m', slices.Repeat([]int{-1}, 16)...))
	wantNoWrite(t, csi('m', slices.Repeat([]int{3}, 17)...))
	wantNoWrite(t, csi('m', slices.Repeat([]int{-1}, 17)...))
	for _, n := range []int{-2, -100, math.MinInt, 65536, 655350, math.MaxInt} {
		wantNoWrite(t, csi('m', n))
		wantNoWrite(t, csi('m', 1, n))
		wantNoWrite(t, csi('m', n, 1))
	}
	wantNoWrite(t, csi('H', -1)) // as many bytes as without it
	for b := range 256 {
		s := string([]byte{byte(b)})
		if b >= 0x40 && b < 0x7f {
			wantWrite(t, "\x1b[1"+s, csi(byte(b), 1))
		} else {
			wantNoWrite(t, csi(byte(b), 1))
		}
		a := api.Action{Kind: 4, Private: byte(b), Params: []int{1, 2}, Final: 'h'}
		if b >= 0x3c && b < 0x40 {
			wantWrite(t, "\x1b["+s+"1;2h", a)
		} else if b != 0 {
			wantNoWrite(t, a)
		}
		a = api.Action{Kind: 4, Params: []int{1, 2}, Inter: s, Final: 'h'}
		if b >= 0x20 && b < 0x30 {
			wantWrite(t, "\x1b[1;2"+s+"h", a)
		} else {
			wantNoWrite(t, a)
		}
	}
	wantNoWrite(t, api.Action{Kind: 4, Inter: "!!!", Final: 'p'})
}

// TestWriteOsc: P5.3 (Write), every byte of a Text, and its length.
func TestWriteOsc(t *testing.T) {
	wantWrite(t, "\x1b]\x07", oscs("")[0])
	wantWrite(t, "\x1b]0;a\x07", oscs("0;a")[0])
	for b := range 256 {
		a := oscs("a" + string([]byte{byte(b)}) + "b")[0]
		if b >= 0x20 {
			wantWrite(t, "\x1b]"+a.Text+"\x07", a)
		} else {
			wantNoWrite(t, a)
		}
	}
	wantWrite(t, "\x1b]"+strings.Repeat("x", 1024)+"\x07", oscs(strings.Repeat("x", 1024))[0])
	wantNoWrite(t, oscs(strings.Repeat("x", 1025))[0])
	for _, s := range []string{"a\x07", "\x07", "a\x1b", "a\x1b\\", "a\x07\x1b]a", "\x18"} {
		wantNoWrite(t, oscs(s)[0])
	}
}

// TestWriteKinds: P5.3 (Write), Kinds that are never written, also for what bytes may come to.
func TestWriteKinds(t *testing.T) {
	d := All([]byte("\x1bP1$qab\x1b"))[0]
	wantNoWrite(t, d)
	for _, kind := range []int{0, api.ActDcs, 7, -1, math.MinInt, math.MaxInt} {
		wantNoWrite(t, api.Action{Kind: kind})
		wantNoWrite(t, api.Action{Kind: kind, Rune: 'a', Final: 'q', Text: "a"})
		wantNoWrite(t, api.Action{Kind: kind, Final: 'q'})
	}
}

// TestWriteFields: P5.3 (Write), fields that the Kind does not have.
func TestWriteFields(t *testing.T) {
	has := map[int]string{api.ActPrint: "r", api.ActExecute: "f", api.ActEsc: "fi", api.ActCsi: "fipn", api.ActOsc: "t"}
	good := map[int]api.Action{api.ActPrint: prints('a')[0], api.ActExecute: execs(10)[0], api.ActEsc: {Kind: 3, Final: 'D'}, api.ActCsi: csi('m', 1), api.ActOsc: oscs("a")[0]}
	for kind, a := range good {
		if _, err := Write(a); err != api.OK {
			t.Errorf("Write(%+v): %d", a, err)
		}
		for field, change := range map[string]func(*api.Action){
			"r": func(a *api.Action) { a.Rune = 'b' },
			"f": func(a *api.Action) { a.Final = 'D' },
			"i": func(a *api.Action) { a.Inter = "!" },
			"p": func(a *api.Action) { a.Private = '?' },
			"n": func(a *api.Action) { a.Params = []int{2} },
			"t": func(a *api.Action) { a.Text = "b" },
		} {
			if !strings.Contains(has[kind], field) {
				twin := a
				change(&twin)
				wantNoWrite(t, twin)
			}
		}
	}
}

// checkWritten: P5.3, each action of b but a DCS is written as bytes that come to it, and to nothing else.
func checkWritten(t *testing.T, b []byte) {
	t.Helper()
	for _, a := range All(b) {
		out, err := Write(a)
		if a.Kind == api.ActDcs {
			if out != nil || err != api.ErrArg {
				t.Fatalf("Write(%+v) = %q, %d", a, out, err)
			}
			continue
		}
		if err != api.OK || !equalActs(All(out), []api.Action{a}) {
			t.Fatalf("Write(%+v) = %q, %d", a, out, err)
		}
	}
}

// TestWriteInverts: P5.3, for what random bytes come to.
func TestWriteInverts(t *testing.T) {
	r := rand.New(rand.NewPCG(5, 3))
	for range 2000 {
		checkWritten(t, randomBytes(r, r.IntN(80)))
	}
}
