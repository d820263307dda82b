package vtparse

import (
	"math"
	"math/rand/v2"
	"slices"
	"strings"
	"testing"

	"lanyard/api"
)

func execs(codes ...byte) []api.Action {
	var l []api.Action
	for _, b := range codes {
		l = append(l, api.Action{Kind: api.ActExecute, Final: b})
	}
	return l
}

func prints(runes ...rune) []api.Action {
	var l []api.Action
	for _, r := range runes {
		l = append(l, api.Action{Kind: api.ActPrint, Rune: r})
	}
	return l
}

func csi(final byte, params ...int) api.Action {
	return api.Action{Kind: api.ActCsi, Final: final, Params: params}
}

func oscs(text string) []api.Action { return []api.Action{{Kind: api.ActOsc, Text: text}} }

func dcs(final byte, text string, params ...int) api.Action {
	return api.Action{Kind: api.ActDcs, Final: final, Text: text, Params: params}
}

func wantActs(t *testing.T, what string, got, want []api.Action) {
	t.Helper()
	if !equalActs(got, want) {
		t.Errorf("%s: %+v, not %+v", what, got, want)
	}
}

// wantAll checks what All returns of s.
func wantAll(t *testing.T, s string, want ...api.Action) {
	t.Helper()
	wantActs(t, "All("+quoted(s)+")", All([]byte(s)), want)
}

func quoted(s string) string {
	if len(s) > 60 {
		s = s[:60] + "..."
	}
	return strings.ReplaceAll(s, "\x1b", "ESC ")
}

// TestExamples: the examples of the chapter.
func TestExamples(t *testing.T) {
	wantAll(t, "\x1b[3;5H", csi('H', 3, 5))
	wantAll(t, "\x1b[;H", csi('H', -1, -1))
	wantAll(t, "\x1b[?25h", api.Action{Kind: 4, Private: '?', Params: []int{25}, Final: 'h'})
	wantAll(t, "\x1b]0;a\x07", oscs("0;a")...)
	wantAll(t, "\xc3\xa9", prints(0xe9)...)
	wantAll(t, "\xc3A", prints(api.Bad, 'A')...)
	wantAll(t, "\x1bPq12\x1b\\x", dcs('q', "12"), prints('x')[0])
}

// TestNew: P5.1 (New).
func TestNew(t *testing.T) {
	p := New()
	if p == nil || !p.Ground() {
		t.Fatal("a new parser is not in Ground")
	}
	wantActs(t, "Put of nothing", p.Put(), nil)
	wantActs(t, "Put", p.Put('a', 0xa9), prints('a', api.Bad))
	if q := New(); q == p || !q.Ground() {
		t.Fatal("New returns what another call returned")
	}
}

// TestPut: P5.2 (Put, Ground), the example of the chapter, and sequences that arrive in several calls.
func TestPut(t *testing.T) {
	p := New()
	steps := []struct {
		in     string
		want   []api.Action
		ground bool
	}{
		{"\x1b[1", nil, false},
		{"\x18", execs(0x18), true},
		{"1\x1b", prints('1'), false},
		{"[3;", nil, false},
		{"", nil, false},
		{"4", nil, false},
		{"H\xe4", []api.Action{csi('H', 3, 4)}, false},
		{"\xb8", nil, false},
		{"\xad", prints(0x4e2d), true},
		{"\xc3", nil, false},
		{"\n\x1b]2;t", slices.Concat(prints(api.Bad), execs('\n')), false},
		{"\x07", oscs("2;t"), true},
		{"\x1b(", nil, false},
		{"Bx", []api.Action{{Kind: 3, Inter: "(", Final: 'B'}, prints('x')[0]}, true},
		{"\x1bP1q", nil, false},
		{"ab\x1b", []api.Action{dcs('q', "ab", 1)}, false},
		{"\\", nil, true},
		{"\x1bX", nil, false},
		{"abc", nil, false},
		{"\x1a", execs(0x1a), true},
	}
	for i, s := range steps {
		wantActs(t, "step "+quoted(s.in), p.Put([]byte(s.in)...), s.want)
		if p.Ground() != s.ground {
			t.Errorf("step %d, %s: Ground is %v", i, quoted(s.in), p.Ground())
		}
	}
}

// TestReset: P5.2 (Reset), from every state: nothing is left of what was collected or held.
func TestReset(t *testing.T) {
	for _, prefixes := range modelPrefixes {
		for _, prefix := range prefixes {
			p := New()
			p.Put([]byte(prefix)...)
			p.Reset()
			if !p.Ground() {
				t.Errorf("%s: not Ground after Reset", quoted(prefix))
			}
			for _, end := range modelEnds {
				p.Put([]byte(prefix)...)
				p.Reset()
				wantActs(t, quoted(prefix)+" Reset "+quoted(end), p.Put([]byte(end)...), New().Put([]byte(end)...))
				p.Reset()
			}
		}
	}
}

// TestAll: P5.2 (All): runes that are only begun come at the end, those that are no runes of Ground do not.
func TestAll(t *testing.T) {
	wantAll(t, "")
	wantActs(t, "All of nil", All(nil), nil)
	wantAll(t, "a\xc3", prints('a', api.Bad)...)
	wantAll(t, "\xf0\x9f\x98", prints(api.Bad, api.Bad, api.Bad)...)
	wantAll(t, "\xf0\x9f\x98\x80", prints(0x1f600)...)
	wantAll(t, "\x1b[1mx\xe4\xb8", csi('m', 1), prints('x')[0], prints(api.Bad)[0], prints(api.Bad)[0])
	wantAll(t, "\x1b\xc3")
	wantAll(t, "\x1b]a\xc3")
	wantAll(t, "\x1b[5")
	wantAll(t, "\xc3\x1b", prints(api.Bad)...)
	p := New()
	wantActs(t, "Put", p.Put('a', 0xc3), prints('a'))
	if p.Ground() {
		t.Error("Ground while a rune is held")
	}
}

// TestParam: P5.2 (Param), each index and what counts as left away.
func TestParam(t *testing.T) {
	a := All([]byte("\x1b[3;H"))[0]
	if n := Param(a, 0, 1); n != 3 {
		t.Error("the first parameter is", n)
	}
	if n := Param(a, 1, 1); n != 1 {
		t.Error("the second parameter is", n)
	}
	a = csi('m', 0, 7, -1, 65535, 1)
	for i, want := range map[int]int{-1: 9, math.MinInt: 9, 0: 9, 1: 7, 2: 9, 3: 65535, 4: 1, 5: 9, 6: 9, math.MaxInt: 9} {
		if n := Param(a, i, 9); n != want {
			t.Errorf("Param(a, %d, 9) = %d, not %d", i, n, want)
		}
	}
	for _, other := range []int{0, -1, -5, math.MaxInt, math.MinInt} {
		if Param(a, 0, other) != other || Param(a, 2, other) != other || Param(a, 5, other) != other || Param(a, 1, other) != 7 {
			t.Error("other is", other)
		}
	}
	if Param(api.Action{}, 0, 4) != 4 || Param(csi('m', -2), 0, 4) != -2 {
		t.Error("an action that no bytes come to")
	}
}

// TestSame: P5.3 (Same), a difference in each field, in order and in length.
func TestSame(t *testing.T) {
	base := api.Action{Kind: 6, Rune: 'r', Final: 'q', Private: '?', Params: []int{1, -1}, Inter: "$", Text: "t"}
	others := []api.Action{{}}
	for _, change := range []func(*api.Action){
		func(a *api.Action) { a.Kind = 4 },
		func(a *api.Action) { a.Rune = 's' },
		func(a *api.Action) { a.Final = 'r' },
		func(a *api.Action) { a.Private = '>' },
		func(a *api.Action) { a.Params = nil },
		func(a *api.Action) { a.Params = []int{1} },
		func(a *api.Action) { a.Params = []int{1, 0} },
		func(a *api.Action) { a.Params = []int{-1, 1} },
		func(a *api.Action) { a.Params = []int{1, -1, -1} },
		func(a *api.Action) { a.Inter = "" },
		func(a *api.Action) { a.Inter = "$$" },
		func(a *api.Action) { a.Text = "T" },
	} {
		a := base
		change(&a)
		others = append(others, a)
	}
	twin := base
	twin.Params = []int{1, -1}
	list := func(a ...api.Action) []api.Action { return a }
	if !Same(list(base), list(twin)) || !Same(list(base, others[1]), list(twin, others[1])) || !Same(nil, nil) {
		t.Error("equal lists are not the same")
	}
	for _, a := range others {
		if Same(list(base), list(a)) || Same(list(a), list(base)) || Same(list(twin, base), list(twin, a)) || Same(list(base, twin), list(a, twin)) {
			t.Errorf("%+v is the same as %+v", a, base)
		}
	}
	if Same(list(base), nil) || Same(nil, list(base)) || Same(list(base, base), list(base)) || Same(nil, list(api.Action{})) {
		t.Error("lists of different lengths are the same")
	}
}

// TestEmptyLists: R4, empty and nil lists are equal.
func TestEmptyLists(t *testing.T) {
	if !Same(nil, []api.Action{}) || !Same([]api.Action{}, nil) {
		t.Error("no actions")
	}
	with, without := csi('m'), csi('m')
	with.Params = []int{}
	without.Params = nil
	if !Same([]api.Action{with}, []api.Action{without}) || !Same([]api.Action{without}, []api.Action{with}) {
		t.Error("no parameters")
	}
	for _, a := range []api.Action{with, without} {
		if b, err := Write(a); string(b) != "\x1b[m" || err != api.OK {
			t.Errorf("Write(%#v) = %q, %d", a, b, err)
		}
	}
	a := prints('x')[0]
	a.Params = []int{}
	if b, err := Write(a); string(b) != "x" || err != api.OK {
		t.Errorf("Write of a rune = %q, %d", b, err)
	}
}

// TestZeroParser: R5, a parser that no call returned does nothing, whatever it is told.
func TestZeroParser(t *testing.T) {
	for _, p := range []*Parser{nil, {}} {
		for range 2 {
			wantActs(t, "Put", p.Put([]byte("a\x1b[1m\x18\xc3\xa9")...), nil)
			if p.Ground() {
				t.Error("a parser that was not made is in Ground")
			}
			p.Reset()
		}
	}
}

// TestPieces: P5.4, every way to cut lists that lead through all states.
func TestPieces(t *testing.T) {
	for _, s := range []string{
		"\x1b[?1;23H\xe4\xb8\xada",
		"\x1bP1;2$qa\xc3\x07\x1b\\",
		"\x1b]0;\xc3\xa9\x07\xc3\xc3\xa9",
		"\x1b(B\x1b[1:2mX\x1bXa\x18",
		"\xf0\x9f\x98A\xf0\x9f\x1b7\xff\xc2\x85",
	} {
		for cuts := range uint64(1) << (len(s) - 1) {
			checkPieces(t, []byte(s), cuts)
		}
	}
}

// TestBounds: P5.5, for sequences that go on and on, and for random bytes.
func TestBounds(t *testing.T) {
	for _, s := range []string{
		"\x1b[" + strings.Repeat("99999;", 50) + "m",
		"\x1b[" + strings.Repeat("9", 5000) + "m",
		"\x1bP?" + strings.Repeat(";", 5000) + strings.Repeat("$", 5000) + "q" + strings.Repeat("x", 5000) + "\x1b\\",
		"\x1b" + strings.Repeat("(", 5000) + "B",
		"\x1b]" + strings.Repeat("\xff", 5000) + "\x07",
		strings.Repeat("\xf0\x9f\x98", 1000) + "A",
		strings.Repeat("\x1b]", 1000),
	} {
		checkBounds(t, []byte(s))
		checkModel(t, []byte(s))
	}
	r := rand.New(rand.NewPCG(5, 5))
	for range 2000 {
		checkBounds(t, randomBytes(r, r.IntN(60)))
	}
	p := New()
	p.Put(0xf0, 0x9f, 0x98)
	wantActs(t, "a byte behind three that were held", p.Put('A'), prints(api.Bad, api.Bad, api.Bad, 'A'))
}

// TestCancel: P5.6, 18 and 1A in every state: one action, Ground, and nothing of what was collected.
func TestCancel(t *testing.T) {
	r := rand.New(rand.NewPCG(5, 6))
	var before []string
	for _, prefixes := range modelPrefixes {
		before = append(before, prefixes...)
	}
	for range 1000 {
		before = append(before, string(randomBytes(r, r.IntN(40))))
	}
	for _, s := range before {
		for _, code := range []byte{0x18, 0x1a} {
			p := New()
			p.Put([]byte(s)...)
			held := p.decoder.Pending()
			want := slices.Concat(prints(slices.Repeat([]rune{api.Bad}, held)...), execs(code))
			wantActs(t, quoted(s), p.Put(code), want)
			if !p.Ground() {
				t.Errorf("%q, %x: not Ground", s, code)
			}
			wantActs(t, quoted(s)+", more", p.Put([]byte("5;a\x1b[m\x1bPq\x1b\x1b]\x07")...), All([]byte("5;a\x1b[m\x1bPq\x1b\x1b]\x07")))
		}
	}
}

// TestKeepsNothing: R3, arguments stay as they are, and neither they nor results are seen again.
func TestKeepsNothing(t *testing.T) {
	b := []byte("\x1b[5;6mx\x1b[7;8m\x1b]a")
	kept := slices.Clone(b)
	p := New()
	l := p.Put(b...)
	All(b)
	if !slices.Equal(b, kept) {
		t.Fatal("an argument changed")
	}
	l[0].Params[0] = 100
	wantActs(t, "the other parameters", l[2:], []api.Action{csi('m', 7, 8)})
	l[2].Params = append(l[2].Params[:0], 1, 2, 3)
	clear(b)
	wantActs(t, "the text goes on", p.Put('b', 7), oscs("ab"))
	p.Put([]byte("\x1b[1;2")...)
	first := p.Put('m')
	p.Put([]byte("\x1b[8;9m")...)
	wantActs(t, "an earlier answer", first, []api.Action{csi('m', 1, 2)})
	a := csi('m', 1, 2)
	out, _ := Write(a)
	out[0] = 'x'
	if again, err := Write(a); string(again) != "\x1b[1;2m" || err != api.OK || !slices.Equal(a.Params, []int{1, 2}) {
		t.Fatal("Write:", again, err, a)
	}
}

// TestCopies: R3, a copy of a parser goes on by itself, in every state.
func TestCopies(t *testing.T) {
	for _, prefixes := range modelPrefixes {
		for _, prefix := range prefixes {
			for _, end := range modelEnds {
				p := New()
				p.Put([]byte(prefix)...)
				twin := *p
				p.Put([]byte("9;9 9\xb8z\x1b[8;8$$m")...)
				want := New()
				want.Put([]byte(prefix)...)
				wantActs(t, "the copy", twin.Put([]byte(end)...), want.Put([]byte(end)...))
			}
		}
	}
}

// TestLong: THE BOUND, much of each kind of input.
func TestLong(t *testing.T) {
	const n = 1 << 18
	for _, s := range []string{"a", "\xc3\xa9", "\xff", "\xf0\x9f\x98", "\x1b", "\x1b[", "\x1b[m", "\x1b]a\x07", "\x1bPqa", "\n"} {
		if l := All([]byte(strings.Repeat(s, n/len(s)))); len(l) > n {
			t.Fatal(quoted(s), len(l))
		}
	}
	for _, s := range []string{"\x1b]", "\x1bPq", "\x1b[", "\x1b[;", "\x1b", "\x1bX"} {
		All([]byte(s + strings.Repeat("5", n)))
		All([]byte(s + strings.Repeat(";", n)))
		All([]byte(s + strings.Repeat(" ", n)))
	}
	long := api.Action{Kind: api.ActCsi, Final: 'm', Params: make([]int, n), Inter: strings.Repeat(" ", n), Text: strings.Repeat("\n", n)}
	for kind := range 8 {
		long.Kind = kind
		if b, err := Write(long); b != nil || err != api.ErrArg {
			t.Fatal(kind, err)
		}
	}
}
