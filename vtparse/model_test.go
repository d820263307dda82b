package vtparse

import (
	"math/rand/v2"
	"reflect"
	"slices"
	"strings"
	"testing"
	"unicode/utf8"

	"lanyard/api"
)

// modelRow says what the bytes of a range do in a state, and to which state they lead (none: the state stays).
type modelRow struct {
	from, to byte
	do, next string
}

// modelTable is P5.1 row by row; the first row that fits counts, and a byte without a row is ignored.
var modelTable = map[string][]modelRow{
	"Ground": {
		{0x00, 0x1f, "execute", ""},
		{0x20, 0x7e, "print", ""},
	},
	"Escape": {
		{0x00, 0x1f, "execute", ""},
		{0x20, 0x2f, "inter", "EscapeInter"},
		{0x5b, 0x5b, "", "CsiEntry"},
		{0x5d, 0x5d, "", "Osc"},
		{0x50, 0x50, "", "DcsEntry"},
		{0x58, 0x58, "", "Passing"},
		{0x5e, 0x5f, "", "Passing"},
		{0x5c, 0x5c, "", "Ground"},
		{0x30, 0x7e, "esc", "Ground"},
	},
	"EscapeInter": {
		{0x00, 0x1f, "execute", ""},
		{0x20, 0x2f, "inter", ""},
		{0x30, 0x7e, "esc", "Ground"},
	},
	"CsiEntry": {
		{0x00, 0x1f, "execute", ""},
		{0x20, 0x2f, "inter", "CsiInter"},
		{0x30, 0x39, "number", "CsiParam"},
		{0x3b, 0x3b, "number", "CsiParam"},
		{0x3c, 0x3f, "private", "CsiParam"},
		{0x3a, 0x3a, "", "CsiIgnore"},
		{0x40, 0x7e, "csi", "Ground"},
	},
	"CsiParam": {
		{0x00, 0x1f, "execute", ""},
		{0x30, 0x39, "number", ""},
		{0x3b, 0x3b, "number", ""},
		{0x3a, 0x3a, "", "CsiIgnore"},
		{0x3c, 0x3f, "", "CsiIgnore"},
		{0x20, 0x2f, "inter", "CsiInter"},
		{0x40, 0x7e, "csi", "Ground"},
	},
	"CsiInter": {
		{0x00, 0x1f, "execute", ""},
		{0x20, 0x2f, "inter", ""},
		{0x30, 0x3f, "", "CsiIgnore"},
		{0x40, 0x7e, "csi", "Ground"},
	},
	"CsiIgnore": {
		{0x00, 0x1f, "execute", ""},
		{0x40, 0x7e, "", "Ground"},
	},
	"DcsEntry": {
		{0x20, 0x2f, "inter", "DcsInter"},
		{0x30, 0x39, "number", "DcsParam"},
		{0x3b, 0x3b, "number", "DcsParam"},
		{0x3c, 0x3f, "private", "DcsParam"},
		{0x3a, 0x3a, "", "DcsIgnore"},
		{0x40, 0x7e, "final", "DcsText"},
	},
	"DcsParam": {
		{0x30, 0x39, "number", ""},
		{0x3b, 0x3b, "number", ""},
		{0x3a, 0x3a, "", "DcsIgnore"},
		{0x3c, 0x3f, "", "DcsIgnore"},
		{0x20, 0x2f, "inter", "DcsInter"},
		{0x40, 0x7e, "final", "DcsText"},
	},
	"DcsInter": {
		{0x20, 0x2f, "inter", ""},
		{0x30, 0x3f, "", "DcsIgnore"},
		{0x40, 0x7e, "final", "DcsText"},
	},
	"DcsIgnore": {
		{0x40, 0x7e, "", "Passing"},
	},
	"DcsText": {
		{0x7f, 0x7f, "", ""},
		{0x00, 0xff, "text", ""},
	},
	"Osc": {
		{0x07, 0x07, "osc", "Ground"},
		{0x00, 0x1f, "", ""},
		{0x20, 0xff, "text", ""},
	},
	"Passing": {},
}

// model parses a whole list of bytes by the table.
type model struct {
	state   string
	private byte
	final   byte
	numbers string // the digits and semicolons, as they came
	inter   string
	text    []byte
	acts    []api.Action
}

// modelPut returns what Put of b returns, and how many bytes the decoder then holds; nothing is held outside of Ground.
func modelPut(b []byte) (*model, int) {
	m := &model{state: "Ground"}
	for len(b) > 0 {
		if m.state != "Ground" || b[0] < 0x80 {
			m.byte(b[0])
			b = b[1:]
			continue
		}
		run := slices.IndexFunc(b, func(x byte) bool { return x < 0x80 })
		if run < 0 {
			whole := wholeRunes(b)
			m.prints(b[:whole])
			return m, len(b) - whole
		}
		m.prints(b[:run])
		b = b[run:]
	}
	return m, 0
}

// wholeRunes returns how many bytes of b there are ahead of a rune that it only begins.
func wholeRunes(b []byte) int {
	at := 0
	for at < len(b) && utf8.FullRune(b[at:]) {
		_, size := utf8.DecodeRune(b[at:])
		at += size
	}
	return at
}

func modelAll(b []byte) []api.Action {
	m, held := modelPut(b)
	m.prints(b[len(b)-held:])
	return m.acts
}

func (m *model) prints(b []byte) {
	for _, r := range []rune(string(b)) {
		if r > 0x9f {
			m.acts = append(m.acts, api.Action{Kind: api.ActPrint, Rune: r})
		}
	}
}

func (m *model) byte(b byte) {
	switch {
	case b == 0x18 || b == 0x1a:
		m.do("execute", b)
		*m = model{state: "Ground", acts: m.acts}
		return
	case b == 0x1b:
		if m.state == "Osc" {
			m.do("osc", b)
		}
		if m.state == "DcsText" {
			m.do("dcs", b)
		}
		*m = model{state: "Escape", acts: m.acts}
		return
	}
	if b >= 0x80 && m.state != "Osc" && m.state != "DcsText" {
		return
	}
	for _, r := range modelTable[m.state] {
		if r.from <= b && b <= r.to {
			m.do(r.do, b)
			if r.next != "" {
				m.state = r.next
			}
			return
		}
	}
}

func (m *model) do(what string, b byte) {
	a := api.Action{}
	switch what {
	case "execute":
		a = api.Action{Kind: 2, Final: b}
	case "print":
		a = api.Action{Kind: 1, Rune: rune(b)}
	case "esc":
		a = api.Action{Kind: 3, Final: b, Inter: m.inter}
	case "csi":
		a = api.Action{Kind: 4, Final: b, Inter: m.inter, Private: m.private, Params: modelParams(m.numbers)}
	case "osc":
		a = api.Action{Kind: 5, Text: string(m.text)}
	case "dcs":
		a = api.Action{Kind: 6, Final: m.final, Inter: m.inter, Private: m.private, Params: modelParams(m.numbers), Text: string(m.text)}
	case "inter":
		m.inter = (m.inter + string(rune(b)))[:min(len(m.inter)+1, 2)]
	case "number":
		m.numbers += string(rune(b))
	case "private":
		m.private = b
	case "final":
		m.final = b
	case "text":
		m.text = append(m.text, b)[:min(len(m.text)+1, 1024)]
	}
	if a.Kind != 0 {
		m.acts = append(m.acts, a)
	}
}

// modelParams cuts what came at its semicolons.
func modelParams(s string) []int {
	if s == "" {
		return nil
	}
	var l []int
	for _, digits := range strings.Split(s, ";") {
		n := -1
		for _, d := range digits {
			n = min(max(n, 0)*10+int(d-'0'), 65535)
		}
		l = append(l, n)
	}
	return l[:min(len(l), 16)]
}

// checkModel holds All, Put and Ground of b against the model.
func checkModel(t *testing.T, b []byte) {
	t.Helper()
	if got, want := All(b), modelAll(b); !equalActs(got, want) {
		t.Fatalf("All(%q) = %+v, not %+v", b, got, want)
	}
	p := New()
	m, held := modelPut(b)
	if got := p.Put(b...); !equalActs(got, m.acts) {
		t.Fatalf("Put(%q) = %+v, not %+v", b, got, m.acts)
	}
	if got, want := p.Ground(), m.state == "Ground" && held == 0; got != want {
		t.Fatalf("Ground after %q is %v", b, got)
	}
}

// equalActs tells without Same whether the lists are equal.
func equalActs(a, b []api.Action) bool {
	return slices.EqualFunc(a, b, func(x, y api.Action) bool { return reflect.DeepEqual(normal(x), normal(y)) })
}

func normal(a api.Action) api.Action {
	if len(a.Params) == 0 {
		a.Params = nil
	}
	return a
}

// modelPrefixes lead to each state, with something collected where that is possible.
var modelPrefixes = map[string][]string{
	"Ground":      {"", "a", "\x1b7", "\x1b\\", "\x1b[1m", "\x1b[1;?m", "\x1b]a\x07", "\xc3", "\xe4\xb8", "\xf0\x9f\x98", "\xc2", "\x1b[5\x18", "\x1bP5qa\x1a"},
	"Escape":      {"\x1b", "\x1b\x1b", "\x1b[5 \x1b", "\x1bP?7;8 qab\x1b", "\x1b]ab\x1b", "\x1b\x7f", "\x1b\x01", "\xc3\x1b"},
	"EscapeInter": {"\x1b ", "\x1b#/", "\x1b#/!", "\x1b#\x7f", "\x1b#\x08"},
	"CsiEntry":    {"\x1b[", "\x1b[\x7f", "\x1b[\x0d"},
	"CsiParam":    {"\x1b[0", "\x1b[;", "\x1b[5", "\x1b[5;", "\x1b[?", "\x1b[>1;2", "\x1b[1;2;3;4;5;6;7;8;9;10;11;12;13;14;15;16", "\x1b[;;;;;;;;;;;;;;;;", "\x1b[6553", "\x1b[65535"},
	"CsiInter":    {"\x1b[ ", "\x1b[5!", "\x1b[?5$*", "\x1b[5$*+"},
	"CsiIgnore":   {"\x1b[:", "\x1b[5:", "\x1b[5?", "\x1b[5 5", "\x1b[?<"},
	"DcsEntry":    {"\x1bP", "\x1bP\x7f", "\x1bP\x0d"},
	"DcsParam":    {"\x1bP0", "\x1bP;", "\x1bP5;", "\x1bP?", "\x1bP>1;2"},
	"DcsInter":    {"\x1bP ", "\x1bP5!", "\x1bP?5$*", "\x1bP5$*+"},
	"DcsIgnore":   {"\x1bP:", "\x1bP5:", "\x1bP5?", "\x1bP5 5"},
	"DcsText":     {"\x1bPq", "\x1bP?5;6$*qab", "\x1bP5q\xc3"},
	"Osc":         {"\x1b]", "\x1b]0;a", "\x1b]\xc3"},
	"Passing":     {"\x1bX", "\x1b^ab", "\x1b_", "\x1bP:q"},
}

// modelEnds tell the states apart.
var modelEnds = []string{"", "q", "5q", "\x01q", " q", "5;6 q", ":q", "?5q", "\x07q", "\x1b\\", "\x1b[q", "\x18q", "\xa9q", "\x7fq", "[q", "X\x07q", "\\q"}

// TestEveryByteInEveryState: P5.1, each byte in each state, in pairs with another one behind it, and with ends that show where they led.
func TestEveryByteInEveryState(t *testing.T) {
	if len(modelPrefixes) != len(modelTable) || len(modelTable) != 14 {
		t.Fatal("not all states have a prefix")
	}
	for state, prefixes := range modelPrefixes {
		for _, prefix := range prefixes {
			if m, _ := modelPut([]byte(prefix)); m.state != state {
				t.Fatalf("%q leads to %s, not %s", prefix, m.state, state)
			}
			for b := range 256 {
				for _, end := range modelEnds {
					checkModel(t, slices.Concat([]byte(prefix), []byte{byte(b)}, []byte(end)))
				}
			}
		}
	}
}

// edgeBytes are the ends of the ranges of P5.1, the bytes that it names, and some of runes.
var edgeBytes = []byte{0x00, 0x07, 0x17, 0x18, 0x19, 0x1a, 0x1b, 0x1c, 0x1f, 0x20, 0x2f, 0x30, 0x39, 0x3a, 0x3b, 0x3c, 0x3f, 0x40, 'P', 'X', '[', '\\', ']', '^', '_', 0x7e, 0x7f, 0x80, 0x9f, 0xa9, 0xc2, 0xc3, 0xe4, 0xff}

// TestShortLists: P5.1 and P5.2, all lists of up to three bytes of edgeBytes, and these behind ESC.
func TestShortLists(t *testing.T) {
	for _, x := range edgeBytes {
		for _, y := range edgeBytes {
			checkModel(t, []byte{x, y})
			for _, z := range edgeBytes {
				checkModel(t, []byte{x, y, z})
				checkModel(t, []byte{0x1b, x, y, z})
			}
		}
		checkModel(t, []byte{x})
	}
	checkModel(t, nil)
}

// randomBytes are of the kind that leads through many states.
func randomBytes(r *rand.Rand, n int) []byte {
	pieces := []string{"\x1b", "\x1b[", "\x1bP", "\x1b]", "\x1b\\", "\x07", "\x18", ";", "12", ":", "?", " ", "!", "m", "q", "\xc3\xa9", "\xe4\xb8\xad", "\xf0\x9f", "\x7f", "\n"}
	var b []byte
	for len(b) < n {
		if r.IntN(5) == 0 {
			b = append(b, byte(r.IntN(256)))
			continue
		}
		b = append(b, pieces[r.IntN(len(pieces))]...)
	}
	return b[:n]
}

// TestLongLists: P5.1 and P5.4, lists of up to a hundred bytes beside the model, and in pieces.
func TestLongLists(t *testing.T) {
	r := rand.New(rand.NewPCG(5, 18))
	for range 3000 {
		b := randomBytes(r, r.IntN(100))
		checkModel(t, b)
		checkPieces(t, b, r.Uint64(), r.Uint64())
	}
}

// checkPieces cuts b behind each byte whose bit is set in cuts, where there is one.
func checkPieces(t *testing.T, b []byte, cuts ...uint64) {
	t.Helper()
	p := New()
	var got []api.Action
	from := 0
	for i := range b {
		if i/64 < len(cuts) && cuts[i/64]>>(i%64)&1 == 1 {
			got = append(got, p.Put(b[from:i+1]...)...)
			from = i + 1
		}
	}
	got = append(got, p.Put(b[from:]...)...)
	whole := New()
	if want := whole.Put(b...); !equalActs(got, want) {
		t.Fatalf("%q in pieces %b: %+v, not %+v", b, cuts, got, want)
	}
	if p.Ground() != whole.Ground() {
		t.Fatalf("%q in pieces %b: Ground is %v", b, cuts, p.Ground())
	}
}

// checkBounds: P5.5, and each field that a Kind does not have is empty.
func checkBounds(t *testing.T, b []byte) {
	t.Helper()
	l := All(b)
	if len(l) > len(b)+1 {
		t.Fatalf("%d actions of %d bytes", len(l), len(b))
	}
	for _, a := range l {
		if len(a.Params) > api.MaxParams || len(a.Inter) > 2 || len(a.Text) > api.MaxOsc {
			t.Fatalf("%q: too much in %+v", b, a)
		}
		for _, n := range a.Params {
			if n < -1 || n > api.MaxParam {
				t.Fatalf("%q: the parameter %d", b, n)
			}
		}
	}
}

// FuzzPut: P5.1 to P5.6, for whatever bytes and cuts.
func FuzzPut(f *testing.F) {
	f.Add([]byte("\x1b[3;5H\xc3\xa9\x1b]0;a\x07\x1bPq12\x1b\\"), uint64(3))
	f.Add([]byte("\x1b[?25h\xe4\xb8\x18\x1b#8"), uint64(0))
	f.Fuzz(func(t *testing.T, b []byte, cuts uint64) {
		checkModel(t, b)
		checkPieces(t, b, cuts)
		checkBounds(t, b)
		checkWritten(t, b)
		for _, end := range []byte{0x18, 0x1a} {
			p := New()
			p.Put(append(slices.Clone(b), end)...)
			if !p.Ground() {
				t.Fatalf("not Ground after %q and %x", b, end)
			}
		}
	})
}
