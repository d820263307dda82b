package vtparse

import (
	"slices"
	"strings"
	"testing"

	"lanyard/api"
)

// eachByte calls f with every byte of the ranges, which are given by their ends.
func eachByte(f func(b byte, s string), ends ...int) {
	for i := 0; i < len(ends); i += 2 {
		for b := ends[i]; b <= ends[i+1]; b++ {
			f(byte(b), string([]byte{byte(b)}))
		}
	}
}

// plainControls are the controls but for 18, 1A and 1B.
var plainControls = []int{0x00, 0x17, 0x19, 0x19, 0x1c, 0x1f}

// TestGround: P5.1 (Ground).
func TestGround(t *testing.T) {
	eachByte(func(b byte, s string) { wantAll(t, s+"x", execs(b)[0], prints('x')[0]) }, plainControls...)
	eachByte(func(b byte, s string) { wantAll(t, s, prints(rune(b))...) }, 0x20, 0x7e)
	wantAll(t, "a\x7fb", prints('a', 'b')...)
	wantAll(t, "\x18\x1a", execs(0x18, 0x1a)...)
}

// TestGroundRunes: P5.1 (Ground), runes, what is none, and controls that are ignored.
func TestGroundRunes(t *testing.T) {
	wantAll(t, "\xc3\xa9\xe4\xb8\xad\xf0\x9f\x98\x80", prints(0xe9, 0x4e2d, 0x1f600)...)
	wantAll(t, "\xef\xbf\xbd\xef\xbf\xbf", prints(api.Bad, 0xffff)...)
	eachByte(func(b byte, s string) { wantAll(t, "\xc2"+s+"x", prints('x')...) }, 0x80, 0x9f)
	wantAll(t, "\xc2\xa0\xc2\xad", prints(0xa0, 0xad)...)
	eachByte(func(b byte, s string) { wantAll(t, s+"x", prints(api.Bad, 'x')...) }, 0x80, 0xff)
	wantAll(t, "\xc0\x80\xed\xa0\x80\xf4\x90\x80\x80", prints(slices.Repeat([]rune{api.Bad}, 9)...)...)
	wantAll(t, "\xcc\x81", prints(0x301)...)
	p := New()
	wantActs(t, "a control that is ignored", p.Put(0xc2, 0x85), nil)
	if !p.Ground() {
		t.Error("not Ground behind a control that is ignored")
	}
}

// TestGroundCutRunes: P5.1, a rune that a byte below 80 cuts off comes first, whatever that byte is.
func TestGroundCutRunes(t *testing.T) {
	for held, cut := range map[string]int{"\xc3": 1, "\xe4\xb8": 2, "\xf0\x9f\x98": 3} {
		bad := prints(slices.Repeat([]rune{api.Bad}, cut)...)
		eachByte(func(b byte, s string) {
			p := New()
			wantActs(t, "held", p.Put([]byte(held)...), nil)
			want := slices.Concat(bad, New().Put(b))
			wantActs(t, quoted(held+s), p.Put(b), want)
			if p.Ground() != (b != 0x1b) {
				t.Errorf("Ground behind %x is %v", b, p.Ground())
			}
		}, 0x00, 0x7f)
		wantAll(t, held+"\x1b[m", append(slices.Clone(bad), csi('m'))...)
		wantAll(t, held+"\x7f", bad...)
		wantAll(t, held+"\x18", append(slices.Clone(bad), execs(0x18)...)...)
		// The rest of the rune does not join what was held ahead of the sequence.
		wantAll(t, held+"\x1b7\xa9", slices.Concat(bad, []api.Action{{Kind: 3, Final: '7'}}, prints(api.Bad))...)
	}
}

// TestEscape: P5.1 (Escape), each byte.
func TestEscape(t *testing.T) {
	eachByte(func(b byte, s string) {
		wantAll(t, "\x1b"+s+"7", execs(b)[0], api.Action{Kind: 3, Final: '7'})
	}, plainControls...)
	eachByte(func(b byte, s string) {
		if !strings.Contains("[]PX^_\\", s) {
			wantAll(t, "\x1b"+s+"x", api.Action{Kind: 3, Final: b}, prints('x')[0])
		}
	}, 0x30, 0x7e)
	eachByte(func(b byte, s string) { wantAll(t, "\x1b"+s+"7", api.Action{Kind: 3, Final: '7'}) }, 0x7f, 0xff)
	eachByte(func(b byte, s string) {
		wantAll(t, "\x1b"+s+"B", api.Action{Kind: 3, Inter: s, Final: 'B'})
	}, 0x20, 0x2f)
	wantAll(t, "\x1b\\x", prints('x')...)
	wantAll(t, "\x1b\x1b7", api.Action{Kind: 3, Final: '7'})
	wantAll(t, "\x1b\x18"+"7", execs(0x18)[0], prints('7')[0])
	wantAll(t, "\x1b\x1a"+"7", execs(0x1a)[0], prints('7')[0])
}

// TestEscapeInter: P5.1 (EscapeInter), each byte, and an Inter of two at most.
func TestEscapeInter(t *testing.T) {
	eachByte(func(b byte, s string) {
		wantAll(t, "\x1b#"+s+"8", execs(b)[0], api.Action{Kind: 3, Inter: "#", Final: '8'})
	}, plainControls...)
	eachByte(func(b byte, s string) {
		wantAll(t, "\x1b#"+s+"x", api.Action{Kind: 3, Inter: "#", Final: b}, prints('x')[0])
	}, 0x30, 0x7e)
	eachByte(func(b byte, s string) {
		wantAll(t, "\x1b#"+s+"8", api.Action{Kind: 3, Inter: "#", Final: '8'})
	}, 0x7f, 0xff)
	eachByte(func(b byte, s string) {
		wantAll(t, "\x1b#"+s+"8", api.Action{Kind: 3, Inter: "#" + s, Final: '8'})
		wantAll(t, "\x1b#!"+s+"8", api.Action{Kind: 3, Inter: "#!", Final: '8'})
	}, 0x20, 0x2f)
	wantAll(t, "\x1b#\x18"+"8", execs(0x18)[0], prints('8')[0])
	wantAll(t, "\x1b#\x1b8", api.Action{Kind: 3, Final: '8'})
}

// TestCsi: P5.1 (CsiEntry, CsiParam, CsiInter), ordinary sequences.
func TestCsi(t *testing.T) {
	eachByte(func(b byte, s string) {
		wantAll(t, "\x1b["+s+"x", csi(b), prints('x')[0])
		wantAll(t, "\x1b[5"+s+"x", csi(b, 5), prints('x')[0])
		wantAll(t, "\x1b[5!"+s+"x", api.Action{Kind: 4, Params: []int{5}, Inter: "!", Final: b}, prints('x')[0])
		wantAll(t, "\x1b[?"+s+"x", api.Action{Kind: 4, Private: '?', Final: b}, prints('x')[0])
	}, 0x40, 0x7e)
	eachByte(func(b byte, s string) {
		wantAll(t, "\x1b["+s+"p", api.Action{Kind: 4, Inter: s, Final: 'p'})
		wantAll(t, "\x1b[1;2"+s+"p", api.Action{Kind: 4, Params: []int{1, 2}, Inter: s, Final: 'p'})
		wantAll(t, "\x1b[?1;2!"+s+"p", api.Action{Kind: 4, Private: '?', Params: []int{1, 2}, Inter: "!" + s, Final: 'p'})
		wantAll(t, "\x1b[!\""+s+"p", api.Action{Kind: 4, Inter: "!\"", Final: 'p'})
	}, 0x20, 0x2f)
	eachByte(func(b byte, s string) {
		wantAll(t, "\x1b["+s+"25;h", api.Action{Kind: 4, Private: b, Params: []int{25, -1}, Final: 'h'})
	}, 0x3c, 0x3f)
}

// TestCsiWithin: P5.1, controls, 7F and bytes from 80 on within a CSI sequence.
func TestCsiWithin(t *testing.T) {
	eachByte(func(b byte, s string) {
		wantAll(t, "\x1b["+s+"5;"+s+"6"+s+" "+s+"q", slices.Concat(execs(b, b, b, b), []api.Action{{Kind: 4, Params: []int{5, 6}, Inter: " ", Final: 'q'}})...)
		wantAll(t, "\x1b[:"+s+"5q"+s, execs(b, b)...)
	}, plainControls...)
	eachByte(func(b byte, s string) {
		wantAll(t, "\x1b["+s+"5;"+s+"6"+s+" "+s+"q", api.Action{Kind: 4, Params: []int{5, 6}, Inter: " ", Final: 'q'})
		wantAll(t, "\x1b[:"+s+"5qx", prints('x')...)
	}, 0x7f, 0xff)
}

// TestCsiIgnore: P5.1 (CsiIgnore), what leads there and out of it.
func TestCsiIgnore(t *testing.T) {
	for _, s := range []string{"\x1b[:", "\x1b[5:", "\x1b[5;:", "\x1b[?:", "\x1b[5?", "\x1b[5<", "\x1b[;=", "\x1b[??", "\x1b[ 5", "\x1b[5 ;", "\x1b[5 :", "\x1b[5 ?"} {
		wantAll(t, s+"1;2:?! $x", nil...)
		eachByte(func(b byte, final string) { wantAll(t, s+final+"x", prints('x')...) }, 0x40, 0x7e)
		wantAll(t, s+"1;2:? mX", prints('X')...)
		wantAll(t, s+"\x18m", execs(0x18)[0], prints('m')[0])
		wantAll(t, s+"\x1b[7m", csi('m', 7))
	}
}

// TestDcs: P5.1 (DcsEntry, DcsParam, DcsInter, DcsText), ordinary strings; they are told at the ESC that ends them.
func TestDcs(t *testing.T) {
	eachByte(func(b byte, s string) {
		wantAll(t, "\x1bP"+s+"ab\x1b", dcs(b, "ab"))
		wantAll(t, "\x1bP5;6"+s+"ab\x1b\\x", dcs(b, "ab", 5, 6), prints('x')[0])
		wantAll(t, "\x1bP5!"+s+"\x1b\\", api.Action{Kind: 6, Params: []int{5}, Inter: "!", Final: b})
	}, 0x40, 0x7e)
	eachByte(func(b byte, s string) {
		wantAll(t, "\x1bP"+s+"1$q\x1b\\", api.Action{Kind: 6, Private: b, Params: []int{1}, Inter: "$", Final: 'q'})
	}, 0x3c, 0x3f)
	eachByte(func(b byte, s string) {
		wantAll(t, "\x1bP$"+s+"!q\x1b\\", api.Action{Kind: 6, Inter: "$" + s, Final: 'q'})
	}, 0x20, 0x2f)
	wantAll(t, "\x1bP+q544e\x1b[H", api.Action{Kind: 6, Inter: "+", Final: 'q', Text: "544e"}, csi('H'))
	wantAll(t, "\x1bPqabc")
	wantAll(t, "\x1bPqabc\x18x", execs(0x18)[0], prints('x')[0])
	wantAll(t, "\x1bPqabc\x1ax", execs(0x1a)[0], prints('x')[0])
	for _, s := range []string{"\x1bP", "\x1bP5", "\x1bP?", "\x1bP5 "} {
		wantAll(t, s+"\x1b\\x", prints('x')...)
		wantAll(t, s+"\x18x", execs(0x18)[0], prints('x')[0])
	}
}

// TestDcsWithin: P5.1, controls, 7F and bytes from 80 on are ignored ahead of the final byte; behind it all but 7F belong to the Text.
func TestDcsWithin(t *testing.T) {
	want := api.Action{Kind: 6, Params: []int{5, 6}, Inter: " ", Final: 'q', Text: "a"}
	noise := func(b byte, s string) {
		wantAll(t, "\x1bP"+s+"5;"+s+"6"+s+" "+s+"qa\x1b", want)
		wantAll(t, "\x1bP:"+s+"5q"+s+"\x1b7", api.Action{Kind: 3, Final: '7'})
	}
	eachByte(noise, plainControls...)
	eachByte(noise, 0x7f, 0xff)
	text := func(b byte, s string) { wantAll(t, "\x1bPq"+s+"x"+s+"\x1b", dcs('q', s+"x"+s)) }
	eachByte(text, plainControls...)
	eachByte(text, 0x20, 0x7e, 0x80, 0xff)
	wantAll(t, "\x1bPq\x7fa\x7f\x1b", dcs('q', "a"))
}

// TestDcsIgnore: P5.1 (DcsIgnore), from where no DCS is told, and which ends only with ESC, 18 or 1A.
func TestDcsIgnore(t *testing.T) {
	for _, s := range []string{"\x1bP:", "\x1bP5:", "\x1bP5?", "\x1bP??", "\x1bP 5", "\x1bP5 ;", "\x1bP5 :", "\x1bP5 ?"} {
		wantAll(t, s+"1;2:? ! x\x07y")
		eachByte(func(b byte, final string) { wantAll(t, s+final+"12qx\n\x1b\\y", prints('y')...) }, 0x40, 0x7e)
		wantAll(t, s+"q[m\x1b[7m", csi('m', 7))
		wantAll(t, s+"qq\x1ax", execs(0x1a)[0], prints('x')[0])
		wantAll(t, s+"\x18x", execs(0x18)[0], prints('x')[0])
	}
}

// TestOsc: P5.1 (Osc), how it ends and what belongs to its Text.
func TestOsc(t *testing.T) {
	wantAll(t, "\x1b]2;title\x07x", append(oscs("2;title"), prints('x')...)...)
	wantAll(t, "\x1b]2;title\x1b\\x", append(oscs("2;title"), prints('x')...)...)
	wantAll(t, "\x1b]2;title\x1b[m", append(oscs("2;title"), csi('m'))...)
	wantAll(t, "\x1b]2;title\x1b", oscs("2;title")...)
	wantAll(t, "\x1b]\x07", oscs("")...)
	wantAll(t, "\x1b]\x1b]a\x07", append(oscs(""), oscs("a")...)...)
	wantAll(t, "\x1b]2;title")
	wantAll(t, "\x1b]a\x18x", execs(0x18)[0], prints('x')[0])
	wantAll(t, "\x1b]a\x1ax", execs(0x1a)[0], prints('x')[0])
	eachByte(func(b byte, s string) {
		if b != 7 {
			wantAll(t, "\x1b]"+s+"a"+s+"\x07", oscs("a")...)
		}
	}, plainControls...)
	eachByte(func(b byte, s string) { wantAll(t, "\x1b]"+s+"a"+s+"\x07", oscs(s+"a"+s)...) }, 0x20, 0xff)
}

// TestPassing: P5.1 (Passing), where everything but ESC, 18 and 1A is ignored.
func TestPassing(t *testing.T) {
	for _, s := range []string{"\x1bX", "\x1b^", "\x1b_"} {
		ignored := func(b byte, more string) { wantAll(t, s+more+"x"+more+"\x1b7", api.Action{Kind: 3, Final: '7'}) }
		eachByte(ignored, plainControls...)
		eachByte(ignored, 0x20, 0xff)
		wantAll(t, s+"a\x07b\x1b\\x", prints('x')...)
		wantAll(t, s+"a\x18x", execs(0x18)[0], prints('x')[0])
		wantAll(t, s+"a\x1ax", execs(0x1a)[0], prints('x')[0])
	}
}

// TestParams: P5.1 (parameters), what digits and semicolons make.
func TestParams(t *testing.T) {
	for in, want := range map[string][]int{
		"":                               nil,
		"0":                              {0},
		"00":                             {0},
		"7":                              {7},
		"007":                            {7},
		"12":                             {12},
		";":                              {-1, -1},
		";;":                             {-1, -1, -1},
		"5;":                             {5, -1},
		";5":                             {-1, 5},
		"1;;3":                           {1, -1, 3},
		"0;0":                            {0, 0},
		"65534":                          {65534},
		"65535":                          {65535},
		"65536":                          {65535},
		"65540;1":                        {65535, 1},
		"99999":                          {65535},
		"655350":                         {65535},
		"6553;6":                         {6553, 6},
		"18446744073709551617":           {65535},
		"1;99999999999999999999999999;2": {1, 65535, 2},
	} {
		wantAll(t, "\x1b["+in+"m", csi('m', want...))
		wantAll(t, "\x1b[?"+in+"h", api.Action{Kind: 4, Private: '?', Params: want, Final: 'h'})
		wantAll(t, "\x1bP"+in+"q\x1b", dcs('q', "", want...))
	}
}

// TestParamsBeyond: P5.1 (parameters), sixteen of them, and more: digits of the seventeenth do not join the sixteenth.
func TestParamsBeyond(t *testing.T) {
	none := slices.Repeat([]int{-1}, 16)
	ones := slices.Repeat([]int{1}, 16)
	last := append(slices.Clone(none[:15]), 12)
	for in, want := range map[string][]int{
		strings.Repeat(";", 14):           none[:15],
		strings.Repeat(";", 15):           none,
		strings.Repeat(";", 16):           none,
		strings.Repeat(";", 100):          none,
		strings.Repeat(";", 15) + "12":    last,
		strings.Repeat(";", 15) + "12;":   last,
		strings.Repeat(";", 15) + "12;34": last,
		strings.Repeat(";", 16) + "12":    none,
		strings.Repeat(";", 17) + "12;3":  none,
		strings.Repeat("1;", 15) + "1":    ones,
		strings.Repeat("1;", 16):          ones,
		strings.Repeat("1;", 16) + "1":    ones,
		strings.Repeat("1;", 40):          ones,
	} {
		wantAll(t, "\x1b["+in+"m", csi('m', want...))
		wantAll(t, "\x1bP"+in+"q\x1b", dcs('q', "", want...))
		wantAll(t, "\x1b["+in+"!m", api.Action{Kind: 4, Params: want, Inter: "!", Final: 'm'})
		// The next sequence has room again.
		wantAll(t, "\x1b["+in+"\x1b[3;4m", csi('m', 3, 4))
	}
}

// TestTextBeyond: P5.1, a Text has 1,024 bytes at most.
func TestTextBeyond(t *testing.T) {
	for _, n := range []int{1023, 1024, 1025, 3000} {
		text := strings.Repeat("ab", n)[:n]
		want := text[:min(n, 1024)]
		wantAll(t, "\x1b]"+text+"\x07x", append(oscs(want), prints('x')...)...)
		wantAll(t, "\x1b]"+text+"\x1b]c\x07", append(oscs(want), oscs("c")...)...)
		wantAll(t, "\x1bPq"+text+"\x1b\\x", dcs('q', want), prints('x')[0])
	}
	wantAll(t, "\x1b]"+strings.Repeat("a", 1023)+"\x01bc\x07", oscs(strings.Repeat("a", 1023)+"b")...)
}

// TestAnew: P5.1, with each ESC everything that is collected begins anew.
func TestAnew(t *testing.T) {
	for _, s := range []string{"\x1b[?5;6$", "\x1bP?5;6$", "\x1b#!", "\x1b[?5;6$\x1b", "\x1b[" + strings.Repeat("1;", 20)} {
		wantAll(t, s+"\x1b[m", csi('m'))
		wantAll(t, s+"\x1b[;7 q", api.Action{Kind: 4, Params: []int{-1, 7}, Inter: " ", Final: 'q'})
		wantAll(t, s+"\x1b7", api.Action{Kind: 3, Final: '7'})
		wantAll(t, s+"\x1b(B", api.Action{Kind: 3, Inter: "(", Final: 'B'})
		wantAll(t, s+"\x1b]a\x07", oscs("a")...)
		wantAll(t, s+"\x1bPqa\x1b", dcs('q', "a"))
	}
	wantAll(t, "\x1bP?5;6$qab\x1b[m", api.Action{Kind: 6, Private: '?', Params: []int{5, 6}, Inter: "$", Final: 'q', Text: "ab"}, csi('m'))
	wantAll(t, "\x1bP?5;6$qab\x1b]c\x07", api.Action{Kind: 6, Private: '?', Params: []int{5, 6}, Inter: "$", Final: 'q', Text: "ab"}, oscs("c")[0])
	wantAll(t, "\x1b[?5;6$m\x1b[m", api.Action{Kind: 4, Private: '?', Params: []int{5, 6}, Inter: "$", Final: 'm'}, csi('m'))
}
