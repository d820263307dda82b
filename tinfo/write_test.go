package tinfo

import (
	"bytes"
	"slices"
	"strings"
	"testing"

	"lanyard/api"
)

// le returns shorts, the less significant byte first.
func le(shorts ...int) []byte {
	var b []byte
	for _, n := range shorts {
		b = append(b, byte(n&0xff), byte(n>>8&0xff))
	}
	return b
}

func wantWritten(t *testing.T, term api.Term) []byte {
	t.Helper()
	before := copyOf(term)
	b, err := Write(term)
	if err != api.OK {
		t.Fatalf("Write of %v returns %d", term, err)
	}
	if !identical(term, before) {
		t.Fatal("Write changes its argument")
	}
	return b
}

// wantBytes holds what Write makes of a Term against the parts of a file.
func wantBytes(t *testing.T, term api.Term, parts ...[]byte) {
	t.Helper()
	if b, want := wantWritten(t, term), slices.Concat(parts...); !bytes.Equal(b, want) {
		t.Errorf("Write of %v returns\n% x\nnot\n% x", term, b, want)
	}
}

// TestWrite: P3.2 (Write), byte by byte: 16 bits, with and without each padding byte and the extended part.
func TestWrite(t *testing.T) {
	wantBytes(t, api.Term{Names: "n"}, le(0x11a, 2, 0, 0, 0, 0), []byte("n\x00"))
	wantBytes(t, api.Term{Names: "nn"}, le(0x11a, 3, 0, 0, 0, 0), []byte("nn\x00"), []byte{0})
	wantBytes(t, api.Term{Names: "n", Bools: []api.Cap{flag}}, le(0x11a, 2, 1, 0, 0, 0), []byte("n\x00"), []byte{1, 0})
	wantBytes(t, api.Term{Names: "n", Bools: []api.Cap{flag, none, gone, none}}, le(0x11a, 2, 4, 0, 0, 0), []byte("n\x00"), []byte{1, 0, 254, 0})
	wantBytes(t, api.Term{Names: "a|b", Bools: []api.Cap{gone}, Nums: []api.Cap{number(0x1234), none, gone, number(0), number(32767)}},
		le(0x11a, 4, 1, 5, 0, 0), []byte("a|b\x00"), []byte{254, 0}, le(0x1234, -1, -2, 0, 32767))
	wantBytes(t, api.Term{Names: "n", Strs: []api.Cap{text("xy"), none, text("xy"), gone, text(""), text("y"), none}},
		le(0x11a, 2, 0, 0, 7, 9), []byte("n\x00"), le(0, -1, 3, -2, 6, 7, -1), []byte("xy\x00xy\x00\x00y\x00"))
}

// TestWriteWide: P3.2 (Write), numbers of 32 bits; strings and counts still have shorts.
func TestWriteWide(t *testing.T) {
	term := api.Term{Names: "n", Wide: true, Nums: []api.Cap{number(0x12345678), none, gone, number(1<<31 - 1), number(1)}, Strs: []api.Cap{none, text("x")}}
	wantBytes(t, term, le(0x21e, 2, 0, 5, 2, 2), []byte("n\x00"), le(0x5678, 0x1234, -1, -1, -2, -1, -1, 0x7fff, 1, 0), le(-1, 0), []byte("x\x00"))
	wantBytes(t, api.Term{Names: "n", Wide: true}, le(0x21e, 2, 0, 0, 0, 0), []byte("n\x00"))
}

// TestWriteExts: P3.2 (Write), the extended part: its counts, paddings and names.
func TestWriteExts(t *testing.T) {
	wantBytes(t, sample(),
		le(0x11a, 5, 3, 4, 4, 3), []byte("ab|c\x00"), []byte{1, 0, 254}, le(80, -1, -2, 0), le(-1, 0, -2, 2), []byte("\a\x00\x00"), []byte{0},
		le(3, 3, 3, 10, 3+9*3), []byte{1, 0, 254}, []byte{0}, le(3, -1, -2), le(0, -1, -2), le(0, 3, 6, 9, 12, 15, 18, 21, 24),
		[]byte("xy\x00"), []byte("AX\x00AN\x00AG\x00U8\x00UN\x00UG\x00Ss\x00SN\x00SG\x00"))
	one := api.Term{Names: "n", Exts: []api.Ext{{Kind: kindFlag, Name: "X", Cap: flag}}}
	wantBytes(t, one, le(0x11a, 2, 0, 0, 0, 0), []byte("n\x00"), le(1, 0, 0, 1, 2), []byte{1, 0}, le(0), []byte("X\x00"))
	one.Names = "nn"
	wantBytes(t, one, le(0x11a, 3, 0, 0, 0, 0), []byte("nn\x00"), []byte{0}, le(1, 0, 0, 1, 2), []byte{1, 0}, le(0), []byte("X\x00"))
	one.Strs = []api.Cap{text("x"), text("")}
	wantBytes(t, one, le(0x11a, 3, 0, 0, 2, 3), []byte("nn\x00"), []byte{0}, le(0, 2), []byte("x\x00\x00"), []byte{0},
		le(1, 0, 0, 1, 2), []byte{1, 0}, le(0), []byte("X\x00"))
	number := api.Term{Names: "n", Wide: true, Exts: []api.Ext{{Kind: kindNumber, Name: "N", Cap: number(70000)}}}
	wantBytes(t, number, le(0x21e, 2, 0, 0, 0, 0), []byte("n\x00"), le(0, 1, 0, 1, 2), le(70000-65536, 1), le(0), []byte("N\x00"))
	texts := api.Term{Names: "n", Exts: []api.Ext{{Kind: kindText, Name: "S", Cap: text("")}, {Kind: kindText, Name: "TT", Cap: gone}, {Kind: kindText, Name: "U", Cap: text("S")}}}
	wantBytes(t, texts, le(0x11a, 2, 0, 0, 0, 0), []byte("n\x00"), le(0, 0, 3, 5, 10), le(0, -2, 1), le(0, 2, 5), []byte("\x00S\x00"), []byte("S\x00TT\x00U\x00"))
}

// TestWriteTables: P3.2 (Write), the greatest tables, and what is one byte more.
func TestWriteTables(t *testing.T) {
	full := api.Term{Names: "n"}
	for range 32 {
		full.Strs = append(full.Strs, text(strings.Repeat("x", 1000)))
	}
	full.Strs = append(full.Strs, none, text(strings.Repeat("y", 32767-32*1001-1)), gone)
	b := wantWritten(t, full)
	wantTerm(t, b, full)
	if got := len(b); got != 12+2+2*35+32767 {
		t.Error(got, "bytes")
	}
	wantTooLong(t, api.Term{Names: "n", Strs: append(full.Strs, text(""))})
	full.Strs[33].Text += "y"
	wantTooLong(t, full)

	full = api.Term{Names: "n"}
	left := 32767
	for i, x := range manyExts(kindText, 17) {
		x.Name += strings.Repeat("n", 990-i)
		x.Cap = text(strings.Repeat("x", 900+i))
		left -= len(x.Name) + len(x.Cap.Text) + 2
		full.Exts = append(full.Exts, x)
	}
	full.Exts = append(full.Exts, api.Ext{Kind: kindText, Name: "Y", Cap: text(strings.Repeat("y", left-3))})
	wantTerm(t, wantWritten(t, full), full)
	full.Exts[17].Cap.Text += "y"
	wantTooLong(t, full)
	full.Exts[17] = api.Ext{Kind: kindText, Name: "YY", Cap: text(strings.Repeat("y", left-3))}
	wantTooLong(t, full)
	full.Exts[17].Cap = none
	wantTerm(t, wantWritten(t, full), full)
}

func wantTooLong(t *testing.T, term api.Term) {
	t.Helper()
	if err := Check(term); err != api.OK {
		t.Error("Check returns", err)
	}
	if b, err := Write(term); err != api.ErrLong || b != nil {
		t.Errorf("Write returns %d bytes, %d", len(b), err)
	}
}

// TestWriteLimits: P3.2 and P3.6, a Term in which all lists are as long as they may be.
func TestWriteLimits(t *testing.T) {
	for _, wide := range []bool{false, true} {
		term := api.Term{
			Names: strings.Repeat("n", 511), Wide: wide,
			Bools: slices.Repeat([]api.Cap{flag, gone}, 32), Nums: slices.Repeat([]api.Cap{number(7), gone}, 32),
			Strs: slices.Repeat([]api.Cap{text("x"), gone}, 256), Exts: manyExts(kindNumber, 256),
		}
		wantTerm(t, wantWritten(t, term), term)
		for kind := range 3 {
			term.Exts = manyExts(kind, 256)
			wantTerm(t, wantWritten(t, term), term)
		}
	}
}
