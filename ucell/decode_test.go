package ucell

import (
	"slices"
	"testing"

	"lanyard/api"
)

// nextRune decodes by the table of RFC 3629 alone: the rune at the beginning of b and its size, or 0, 0.
func nextRune(b []byte) (rune, int) {
	rows := []struct {
		first, last byte // of the leading byte
		low, high   byte // of the second one
		size        int
		mask        byte
	}{
		{0x00, 0x7f, 0, 0, 1, 0x7f},
		{0xc2, 0xdf, 0x80, 0xbf, 2, 0x1f},
		{0xe0, 0xe0, 0xa0, 0xbf, 3, 0x0f},
		{0xe1, 0xec, 0x80, 0xbf, 3, 0x0f},
		{0xed, 0xed, 0x80, 0x9f, 3, 0x0f},
		{0xee, 0xef, 0x80, 0xbf, 3, 0x0f},
		{0xf0, 0xf0, 0x90, 0xbf, 4, 0x07},
		{0xf1, 0xf3, 0x80, 0xbf, 4, 0x07},
		{0xf4, 0xf4, 0x80, 0x8f, 4, 0x07},
	}
	for _, w := range rows {
		if len(b) < w.size || b[0] < w.first || b[0] > w.last {
			continue
		}
		r := rune(b[0] & w.mask)
		for i := 1; i < w.size; i++ {
			low, high := byte(0x80), byte(0xbf)
			if i == 1 {
				low, high = w.low, w.high
			}
			if b[i] < low || b[i] > high {
				return 0, 0
			}
			r = r<<6 | rune(b[i]&0x3f)
		}
		return r, w.size
	}
	return 0, 0
}

func wantRunes(b []byte) []rune {
	var l []rune
	for len(b) > 0 {
		r, size := nextRune(b)
		if size == 0 {
			r, size = api.Bad, 1
		}
		l = append(l, r)
		b = b[size:]
	}
	return l
}

// edgeBytes are the bytes at which the rules of an encoding change.
var edgeBytes = []byte{0x00, 0x61, 0x7f, 0x80, 0x8f, 0x90, 0x9f, 0xa0, 0xbf, 0xc0, 0xc1, 0xc2, 0xdf, 0xe0, 0xe1, 0xec, 0xed, 0xee, 0xef, 0xf0, 0xf1, 0xf3, 0xf4, 0xf5, 0xf8, 0xfe, 0xff}

// eachEdge calls f with every list of n bytes of edgeBytes.
func eachEdge(n int, f func([]byte)) {
	b := make([]byte, n)
	var fill func(int)
	fill = func(at int) {
		if at == n {
			f(b)
			return
		}
		for _, x := range edgeBytes {
			b[at] = x
			fill(at + 1)
		}
	}
	fill(0)
}

// TestRunesOrdinary: P1.1.
func TestRunesOrdinary(t *testing.T) {
	for _, c := range []struct {
		in   []byte
		want []rune
	}{
		{nil, nil},
		{[]byte{}, nil},
		{[]byte("abc"), []rune{'a', 'b', 'c'}},
		{[]byte{0}, []rune{0}},
		{[]byte{0x61, 0xc3, 0xa9, 0xff, 0xe2, 0x82}, []rune{'a', 0xe9, api.Bad, api.Bad, api.Bad}},
		{[]byte{0xe4, 0xb8, 0xad}, []rune{0x4e2d}},
		{[]byte{0xf0, 0x9f, 0x98, 0x80, 'x'}, []rune{0x1f600, 'x'}},
		{[]byte{0xf4, 0x8f, 0xbf, 0xbf}, []rune{0x10ffff}},
		{[]byte{0xef, 0xbf, 0xbd}, []rune{api.Bad}},
	} {
		if got := Runes(c.in); !slices.Equal(got, c.want) {
			t.Errorf("Runes(% x) = %x, not %x", c.in, got, c.want)
		}
	}
}

// TestRunesWrong: P1.1, for what RFC 3629 rules out: each byte is a Bad of its own.
func TestRunesWrong(t *testing.T) {
	for _, b := range [][]byte{
		{0x80}, {0xbf}, {0xc3}, {0xff}, {0xfe},
		{0xc0, 0x80}, {0xc1, 0xbf}, // not the shortest
		{0xe0, 0x80, 0x80}, {0xe0, 0x9f, 0xbf},
		{0xf0, 0x80, 0x80, 0x80}, {0xf0, 0x8f, 0xbf, 0xbf},
		{0xed, 0xa0, 0x80}, {0xed, 0xbf, 0xbf}, // D800, DFFF
		{0xf4, 0x90, 0x80, 0x80}, {0xf5, 0x80, 0x80, 0x80}, // above 10FFFF
		{0xf8, 0x88, 0x80, 0x80, 0x80},   // five bytes
		{0xe4, 0xb8}, {0xf0, 0x9f, 0x98}, // cut off
	} {
		want := slices.Repeat([]rune{api.Bad}, len(b))
		if got := Runes(b); !slices.Equal(got, want) {
			t.Errorf("Runes(% x) = %x", b, got)
		}
	}
}

// TestRunesExact: P1.1, for all short lists of the bytes that matter.
func TestRunesExact(t *testing.T) {
	for n := 1; n <= 4; n++ {
		eachEdge(n, func(b []byte) {
			if got := Runes(b); !slices.Equal(got, wantRunes(b)) {
				t.Fatalf("Runes(% x) = %x, not %x", b, got, wantRunes(b))
			}
		})
	}
}

// TestBytes: P1.1, valid runes at the edges of the four lengths, and values that are none.
func TestBytes(t *testing.T) {
	bad := "\xef\xbf\xbd"
	for _, c := range []struct {
		in   []rune
		want string
	}{
		{nil, ""},
		{[]rune{'a', 0xe9, 0x4e2d, 0x1f600}, "a\xc3\xa9\xe4\xb8\xad\xf0\x9f\x98\x80"},
		{[]rune{0, 0x7f, 0x80, 0x7ff}, "\x00\x7f\xc2\x80\xdf\xbf"},
		{[]rune{0x800, 0xffff, 0x10000, 0x10ffff}, "\xe0\xa0\x80\xef\xbf\xbf\xf0\x90\x80\x80\xf4\x8f\xbf\xbf"},
		{[]rune{0xd7ff, 0xe000}, "\xed\x9f\xbf\xee\x80\x80"},
		{[]rune{-1, 'x', -1 << 31}, bad + "x" + bad},
		{[]rune{0xd800, 0xdfff}, bad + bad},
		{[]rune{0x110000, 1<<31 - 1}, bad + bad},
		{[]rune{api.Bad}, bad},
	} {
		if got := Bytes(c.in); string(got) != c.want {
			t.Errorf("Bytes(%x) = % x, not % x", c.in, got, c.want)
		}
	}
}

// TestRunesInvertsBytes: P1.5, for every valid rune.
func TestRunesInvertsBytes(t *testing.T) {
	var all []rune
	for r := rune(0); r <= 0x10ffff; r++ {
		if r < 0xd800 || r > 0xdfff {
			all = append(all, r)
		}
	}
	if !slices.Equal(Runes(Bytes(all)), all) {
		t.Fatal("Runes does not invert Bytes")
	}
}

// TestPut: P1.4, the example of the chapter call by call.
func TestPut(t *testing.T) {
	d := New()
	if d.Pending() != 0 {
		t.Fatal("a new decoder holds", d.Pending())
	}
	if l := d.Put(0xe4, 0xb8); len(l) != 0 || d.Pending() != 2 {
		t.Fatal(l, d.Pending())
	}
	if l := d.Put(); len(l) != 0 || d.Pending() != 2 {
		t.Fatal("Put of nothing:", l, d.Pending())
	}
	if l := d.Put(0xad, 'x', 0xc3); !slices.Equal(l, []rune{0x4e2d, 'x'}) || d.Pending() != 1 {
		t.Fatal(l, d.Pending())
	}
	if l := d.Flush(); !slices.Equal(l, []rune{api.Bad}) || d.Pending() != 0 {
		t.Fatal(l, d.Pending())
	}
	if l := d.Flush(); len(l) != 0 {
		t.Fatal("a second Flush:", l)
	}
	if l := d.Put('y'); !slices.Equal(l, []rune{'y'}) {
		t.Fatal("after Flush:", l)
	}
}

// TestPutHolds: P1.4, for all short lists: what is held is the shortest end that may still become a rune.
func TestPutHolds(t *testing.T) {
	for n := 1; n <= 3; n++ {
		eachEdge(n, func(b []byte) {
			want, held := wantPut(b)
			d := New()
			if got := d.Put(b...); !slices.Equal(got, want) || d.Pending() != held {
				t.Fatalf("Put(% x) = %x and holds %d, not %x and %d", b, got, d.Pending(), want, held)
			}
		})
	}
}

func wantPut(b []byte) ([]rune, int) {
	var l []rune
	for len(b) > 0 {
		r, size := nextRune(b)
		if size == 0 && beginsRune(b) {
			break
		}
		if size == 0 {
			r, size = api.Bad, 1
		}
		l = append(l, r)
		b = b[size:]
	}
	return l, len(b)
}

// beginsRune tries the least and the greatest bytes that may follow: between them lies some encoding, if there is any.
func beginsRune(b []byte) bool {
	for _, second := range []byte{0x80, 0xbf} {
		for _, end := range [][]byte{{second}, {second, 0x80}, {second, 0x80, 0x80}} {
			if _, size := nextRune(slices.Concat(b, end)); size > len(b) {
				return true
			}
		}
	}
	return false
}

// TestPutHeldWrong: P1.4, held bytes that turn out to begin nothing.
func TestPutHeldWrong(t *testing.T) {
	d := New()
	if l := d.Put(0xf0, 0x9f, 0x98); len(l) != 0 || d.Pending() != 3 {
		t.Fatal(l, d.Pending())
	}
	if l := d.Put('a'); !slices.Equal(l, []rune{api.Bad, api.Bad, api.Bad, 'a'}) || d.Pending() != 0 {
		t.Fatal(l, d.Pending())
	}
	d.Put(0xe2)
	if l := d.Put(0xe2, 0x82); !slices.Equal(l, []rune{api.Bad}) || d.Pending() != 2 {
		t.Fatal(l, d.Pending())
	}
	if l := d.Flush(); !slices.Equal(l, []rune{api.Bad, api.Bad}) {
		t.Fatal(l)
	}
}

// TestPieces: P1.5, every way to cut a list that has right and wrong encodings of every length.
func TestPieces(t *testing.T) {
	for _, b := range [][]byte{
		[]byte("a\xc3\xa9\xe4\xb8\xad\xf0\x9f\x98\x80\xff\xe2\x82"),
		[]byte("\xe4\xb8x\xf0\x9f\x98\xc3\xc3\xa9\xf4\x90\x80\x80"),
		[]byte("\xed\xa0\x80\xe0\x80\xf0\x80\xc0\xaf\xf4\x8f\xbf\xbf\xf0"),
	} {
		want := wantRunes(b)
		for cuts := range 1 << (len(b) - 1) {
			if got := inPieces(b, cuts); !slices.Equal(got, want) {
				t.Fatalf("% x cut at %b: %x, not %x", b, cuts, got, want)
			}
		}
	}
}

func inPieces(b []byte, cuts int) []rune {
	d := New()
	var l []rune
	from := 0
	for i := 1; i <= len(b); i++ {
		if i == len(b) || cuts>>(i-1)&1 == 1 {
			l = append(l, d.Put(b[from:i]...)...)
			from = i
		}
	}
	return append(l, d.Flush()...)
}

// FuzzPieces: P1.1 and P1.5, for whatever bytes and one cut.
func FuzzPieces(f *testing.F) {
	f.Add([]byte("a\xc3\xa9\xff\xe2\x82"), 3)
	f.Fuzz(func(t *testing.T, b []byte, cut int) {
		want := wantRunes(b)
		if got := Runes(b); !slices.Equal(got, want) {
			t.Fatalf("Runes(% x) = %x, not %x", b, got, want)
		}
		cut = min(max(cut, 0), len(b))
		d := New()
		got := slices.Concat(d.Put(b[:cut]...), d.Put(b[cut:]...), d.Flush())
		if !slices.Equal(got, want) {
			t.Fatalf("% x cut at %d: %x, not %x", b, cut, got, want)
		}
	})
}

// TestZeroDecoder: R5, a decoder that no call returned does nothing.
func TestZeroDecoder(t *testing.T) {
	for _, d := range []*Decoder{nil, {}} {
		if l := d.Put('a', 0xe4, 0xb8); len(l) != 0 || d.Pending() != 0 {
			t.Error("Put:", l, d.Pending())
		}
		if l := d.Flush(); len(l) != 0 || d.Pending() != 0 {
			t.Error("Flush:", l, d.Pending())
		}
	}
}

// TestDecodersApart: R3, two decoders and a copy of one share nothing.
func TestDecodersApart(t *testing.T) {
	a, b := New(), New()
	a.Put(0xe4, 0xb8)
	twin := *a
	if l := b.Put(0xad); !slices.Equal(l, []rune{api.Bad}) {
		t.Fatal("the other decoder:", l)
	}
	a.Put('x', 0xc3)
	if l := twin.Put(0xad); !slices.Equal(l, []rune{0x4e2d}) {
		t.Fatal("the copy:", l)
	}
}

// TestDecodeKeepsNothing: R3, arguments stay as they are, and what becomes of them later is not seen.
func TestDecodeKeepsNothing(t *testing.T) {
	b := []byte{'a', 0xe4, 0xb8}
	d := New()
	l := d.Put(b...)
	if string(b) != "a\xe4\xb8" {
		t.Fatalf("Put changed its argument: % x", b)
	}
	clear(b)
	if !slices.Equal(l, []rune{'a'}) {
		t.Fatal(l)
	}
	l[0] = 'z'
	if l := d.Put(0xad); !slices.Equal(l, []rune{0x4e2d}) {
		t.Fatal("what was held changed:", l)
	}
	r := []rune{'a', -1}
	Bytes(r)
	if !slices.Equal(r, []rune{'a', -1}) {
		t.Fatal("Bytes changed its argument")
	}
}
