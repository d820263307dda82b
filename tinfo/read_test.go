package tinfo

import (
	"bytes"
	"slices"
	"strconv"
	"strings"
	"testing"

	"lanyard/api"
)

func wantFlaw(t *testing.T, b []byte, at int, err api.Errno) {
	t.Helper()
	got := read(b)
	if got.at != at || got.err != err || !identical(got.term, api.Term{}) {
		t.Errorf("Read of % x returns %v, not %d, %d", b, got, at, err)
	}
}

// wantTerm holds what a file is read as against a Term, all of whose lists are as long.
func wantTerm(t *testing.T, b []byte, term api.Term) {
	t.Helper()
	got := read(b)
	if got.err != api.OK || got.at != 0 || !identical(got.term, term) || !Same(got.term, term) {
		t.Fatalf("Read of % x returns %v, not %v", b, got, term)
	}
}

// section is a part of a file, under a name of the test's.
type section struct {
	name string
	b    []byte
}

// file is a file whose sections a test can replace one by one.
type file []section

func (f file) bytes() []byte {
	var b []byte
	for _, s := range f {
		b = append(b, s.b...)
	}
	return b
}

func (f file) index(name string) int {
	return slices.IndexFunc(f, func(s section) bool { return s.name == name })
}

// at returns the position of a section.
func (f file) at(name string) int { return len(f[:f.index(name)].bytes()) }

// with returns a file with other bytes under the name.
func (f file) with(name string, b []byte) file {
	f = slices.Clone(f)
	f[f.index(name)].b = b
	return f
}

// upTo returns the file without what follows the section.
func (f file) upTo(name string) file { return f[:f.index(name)+1] }

// hand is a file that no Write made: its strings share bytes and lie in any order, its paddings are not 0, and what is absent has many values.
func hand() file {
	return file{
		{"head", le(0x11a, 5, 4, 6, 8, 9)},
		{"names", []byte("ab|c\x00")},
		{"flags", []byte{1, 0, 254, 7}},
		{"pad", []byte{0xaa}},
		{"numbers", le(80, -1, -2, -3, 32767, -32768)},
		{"strings", le(5, 0, 2, -1, -2, -9, 4, 8)},
		{"table", []byte("abcd\x00efg\x00")},
		{"pad2", []byte{0xbb}},
		{"counts", le(3, 2, 5, 13, 36)},
		{"xflags", []byte{255, 254, 0}},
		{"xpad", []byte{0xcc}},
		{"xnumbers", le(3, -2)},
		{"xstrings", le(8, -2, 0, 1, -1)},
		{"xnames", le(0, 3, 6, 9, 11, 14, 17, 20, 23, 10)},
		{"xtable", []byte("pq\x00rest\x00\x00" + "AX\x00AN\x00AG\x00U8..\x00X0\x00X1\x00X2\x00X3\x00\x00")},
	}
}

func handTerm() api.Term {
	return api.Term{
		Names: "ab|c",
		Bools: []api.Cap{flag, none, gone, flag},
		Nums:  []api.Cap{number(80), none, gone, none, number(32767), none},
		Strs:  []api.Cap{text("efg"), text("abcd"), text("cd"), none, gone, none, text(""), text("")},
		Exts: []api.Ext{
			{Kind: kindFlag, Name: "AX", Cap: flag}, {Kind: kindFlag, Name: "AN", Cap: gone}, {Kind: kindFlag, Name: "AG", Cap: none},
			{Kind: kindNumber, Name: "U8..", Cap: number(3)}, {Kind: kindNumber, Name: "..", Cap: gone},
			{Kind: kindText, Name: "X0", Cap: text("")}, {Kind: kindText, Name: "X1", Cap: gone}, {Kind: kindText, Name: "X2", Cap: text("pq")},
			{Kind: kindText, Name: "X3", Cap: text("q")}, {Kind: kindText, Name: "8..", Cap: none},
		},
	}
}

// TestRead: P3.2 (Read), the format: shared strings, values of all kinds, paddings of any value.
func TestRead(t *testing.T) {
	f := hand()
	wantTerm(t, f.bytes(), handTerm())
	for _, pad := range []string{"pad", "pad2", "xpad"} {
		for _, b := range []byte{0, 1, 255} {
			wantTerm(t, f.with(pad, []byte{b}).bytes(), handTerm())
		}
	}
	plain := handTerm()
	plain.Exts = nil
	wantTerm(t, f.upTo("table").bytes(), plain)
	wantTerm(t, f.upTo("pad2").bytes(), plain)
	wantTerm(t, f.upTo("pad2").with("pad2", []byte{0}).bytes(), plain)
	checkFile(t, f.bytes())
}

// TestReadFlags: P3.2, a flag of every value, in both parts.
func TestReadFlags(t *testing.T) {
	for b := range 256 {
		want := flag
		switch b {
		case 0:
			want = none
		case 254:
			want = gone
		}
		term := handTerm()
		term.Bools[3] = want
		term.Exts[2].Cap = want
		wantTerm(t, hand().with("flags", []byte{1, 0, 254, byte(b)}).with("xflags", []byte{255, 254, byte(b)}).bytes(), term)
	}
}

// TestReadWide: P3.2, numbers of 32 bits, in both parts.
func TestReadWide(t *testing.T) {
	wide := func(nums ...int) []byte {
		var b []byte
		for _, n := range nums {
			b = append(b, le(n, n>>16)...)
		}
		return b
	}
	f := hand().with("head", le(0x21e, 5, 4, 6, 8, 9)).with("numbers", wide(1<<31-1, -1, -2, -3, 65535, -1<<31)).with("xnumbers", wide(0x01020304, -2))
	want := handTerm()
	want.Wide = true
	want.Nums[0], want.Nums[4], want.Exts[3].Cap = number(1<<31-1), number(65535), number(0x01020304)
	wantTerm(t, f.bytes(), want)
	for n := range f.bytes() {
		checkFile(t, f.bytes()[:n])
	}
	wantFlaw(t, f.bytes()[:f.at("strings")-2], f.at("strings")-2, api.ErrEnds)
}

// TestReadEven: P3.2, files in which the sections end at other positions: no byte is passed over at an even one.
func TestReadEven(t *testing.T) {
	f := hand().with("names", []byte("ab|cd\x00")).with("head", le(0x11a, 6, 4, 6, 8, 10)).with("pad", nil).with("table", []byte("abcd\x00efg\x00\x00")).with("pad2", nil).
		with("xflags", []byte{255, 254, 0, 1}).with("counts", le(4, 1, 5, 13, 36)).with("xpad", nil).with("xnumbers", le(-2))
	want := handTerm()
	want.Names = "ab|cd"
	want.Exts[3] = api.Ext{Kind: kindFlag, Name: "U8..", Cap: flag}
	wantTerm(t, f.bytes(), want)
	plain := want
	plain.Exts = nil
	wantTerm(t, f.upTo("table").bytes(), plain)
	wantFlaw(t, append(f.upTo("table").bytes(), 0), f.at("counts")+1, api.ErrEnds)
	wantFlaw(t, slices.Insert(f.bytes(), f.at("numbers"), 0), f.at("strings"), api.ErrTable)
}

// TestReadEnds: P3.2 (Read), ErrEnds at the end of every beginning of a file that is not a file itself.
func TestReadEnds(t *testing.T) {
	f := hand()
	for n := range f.bytes() {
		if n != f.at("pad2") && n != f.at("counts") {
			wantFlaw(t, f.bytes()[:n], n, api.ErrEnds)
		}
	}
	// Within the six shorts, what they would be does not matter.
	for n := range 12 {
		wantFlaw(t, []byte("not terminfo")[:n], n, api.ErrEnds)
		wantFlaw(t, bytes.Repeat([]byte{255}, n), n, api.ErrEnds)
	}
}

// TestReadMagic: P3.2 (Read), every first short.
func TestReadMagic(t *testing.T) {
	rest := hand().bytes()[2:]
	for magic := range 1 << 16 {
		if magic != 0x11a && magic != 0x21e {
			if _, at, err := Read(append(le(magic), rest...)); at != 0 || err != api.ErrMagic {
				t.Fatalf("magic %x: %d, %d", magic, at, err)
			}
		}
	}
	wantFlaw(t, le(0x1a01, -1, -1, -1, -1, -1), 0, api.ErrMagic)
}

// TestReadCounts: P3.2 (Read), each count of the header: its limit, what is beyond it, and that the first wrong one is told.
func TestReadCounts(t *testing.T) {
	most := []int{512, 64, 64, 512, 32767}
	for i := range most {
		for _, n := range []int{-1, -2, -32768, most[i] + 1, 2 * most[i]} {
			head := []int{0x11a, 5, 4, 6, 8, 9}
			head[1+i] = n // As a short, the one above the greatest limit is negative.
			b := hand().with("head", le(head...)).bytes()
			wantFlaw(t, b, 2+2*i, api.ErrCount)
			wantFlaw(t, b[:12], 2+2*i, api.ErrCount)
			wantFlaw(t, b[:11], 11, api.ErrEnds)
			for j := i + 1; j < len(most); j++ {
				head[1+j] = -1
			}
			wantFlaw(t, le(head...), 2+2*i, api.ErrCount)
		}
		// The limit itself is no wrong count: such a file only ends too early.
		head := []int{0x21e, 5, 4, 6, 8, 9}
		head[1+i] = most[i]
		b := hand().with("head", le(head...)).upTo("head").bytes()
		wantFlaw(t, b, 12, api.ErrEnds)
	}
	wantFlaw(t, le(0x11a, 1, 65, -1, 513, -1), 4, api.ErrCount)
	wantFlaw(t, hand().with("head", le(0x11a, 0, 4, 6, 8, 9)).bytes(), 2, api.ErrCount)
	wantFlaw(t, le(0x11a, 0, -1, -1, -1, -1), 2, api.ErrCount)
	wantTerm(t, slices.Concat(le(0x11a, 2, 0, 0, 0, 0), []byte("n\x00")), api.Term{Names: "n"})
}

// TestReadNames: P3.2 (Read), ErrTable for the names: their only byte 0 is their last one, and is not alone.
func TestReadNames(t *testing.T) {
	for _, names := range []string{"\x00", "a", "\x00\x00", "\x00a", "a\x00\x00", "\x00a\x00", "a\x00b\x00", "abcd", "a\x00bc", "ab\x00c\x00"} {
		f := file{{"head", le(0x11a, len(names), 0, 0, 0, 0)}, {"names", []byte(names)}, {"pad", make([]byte, len(names)%2)}}
		wantFlaw(t, f.bytes(), 12, api.ErrTable)
		for n := range f.bytes() {
			wantFlaw(t, f.bytes()[:n], n, api.ErrEnds)
		}
	}
	for _, names := range []string{"a\x00", "|\x00", "\xff\x01\x00", strings.Repeat("n", 511) + "\x00"} {
		f := file{{"head", le(0x11a, len(names), 0, 0, 0, 0)}, {"names", []byte(names)}, {"pad", make([]byte, len(names)%2)}}
		wantTerm(t, f.bytes(), api.Term{Names: names[:len(names)-1]})
	}
	// Where the first part ends too early, that comes first; in the extended part it does not matter.
	for _, names := range []string{"ab|cd", "a\x00b|\x00", "\x00\x00\x00\x00\x00"} {
		f := hand().with("names", []byte(names))
		for n := range len(f.bytes()) + 1 {
			if n < f.at("pad2") {
				wantFlaw(t, f.bytes()[:n], n, api.ErrEnds)
			} else {
				wantFlaw(t, f.bytes()[:n], 12, api.ErrTable)
			}
		}
	}
}

// flawed is a flaw of a file, and what Read says of it.
type flawed struct {
	at  int
	err api.Errno
	end int    // where the file ends
	pos int    // where bytes are put into the file
	b   []byte // what they are
}

// flaws are such as the file can have, in the order in which the chapter lists them.
func flaws(f file) []flawed {
	var l []flawed
	size := len(f.bytes())
	cut := func(from, to int) {
		for n := from; n < to; n++ {
			l = append(l, flawed{at: n, err: api.ErrEnds, end: n})
		}
	}
	put := func(err api.Errno, section string, at int, b []byte) {
		at += f.at(section)
		l = append(l, flawed{at: at, err: err, end: size, pos: at, b: b})
	}
	cut(0, 12)
	put(api.ErrMagic, "head", 0, le(0x11b))
	for i := range 5 {
		put(api.ErrCount, "head", 2+2*i, le(-1))
	}
	cut(12, f.at("pad2"))
	put(api.ErrTable, "names", 0, []byte("a\x00|c\x00"))
	put(api.ErrTable, "strings", 4, le(9))
	put(api.ErrTable, "strings", 14, le(10))
	cut(f.at("counts")+1, f.at("xflags"))
	for i := range 5 {
		put(api.ErrCount, "counts", 2*i, le(-1))
	}
	cut(f.at("xflags"), size)
	put(api.ErrCount, "counts", 6, le(12))
	put(api.ErrTable, "xstrings", 4, le(36))
	put(api.ErrTable, "xnames", 0, le(-1))
	put(api.ErrTable, "xnames", 18, le(32767))
	return append(l, flawed{at: size, err: api.ErrRest, end: size + 1})
}

// TestReadOrder: P3.2 (Read), files with two flaws: the one that the chapter lists first is told, wherever they stand.
func TestReadOrder(t *testing.T) {
	whole := hand().bytes()
	l := flaws(hand())
	for i, first := range l {
		for _, other := range l[i:] {
			b := append(bytes.Clone(whole), 0)
			copy(b[other.pos:], other.b)
			copy(b[first.pos:], first.b)
			end := min(first.end, other.end)
			if end == len(whole) {
				end = max(first.end, other.end)
			}
			wantFlaw(t, b[:end], first.at, first.err)
		}
	}
}

// TestReadStrings: P3.2 (Read), ErrTable at the first string that has no place in the table.
func TestReadStrings(t *testing.T) {
	f := hand()
	at := f.at("strings")
	for _, c := range []struct {
		strings []int
		wrong   int
	}{
		{[]int{5, 0, 2, -1, -2, -9, 4, 9}, 7}, {[]int{5, 0, 2, -1, -2, -9, 4, 10}, 7}, {[]int{32767, 0, 2, -1, -2, -9, 4, 8}, 0},
		{[]int{5, 0, 99, -1, -2, -9, 9, 8}, 2}, {[]int{5, 0, 2, 10, 11, 12, 4, 8}, 3},
	} {
		for _, part := range []file{f, f.upTo("pad2"), f.upTo("table"), f.upTo("xflags")} {
			wantFlaw(t, part.with("strings", le(c.strings...)).bytes(), at+2*c.wrong, api.ErrTable)
		}
	}
	wantFlaw(t, f.with("table", []byte("abcd\x00efgh")).bytes(), at, api.ErrTable)
	wantFlaw(t, f.with("table", []byte("abcd\x00\x00\x00\x00h")).bytes(), at+14, api.ErrTable)
	wantFlaw(t, f.with("strings", le(-1, -1, -1, -1, -1, -1, -1, 0)).with("table", []byte("abcdefghi")).bytes(), at+14, api.ErrTable)
	// The table ends before what follows it begins, even if a byte 0 stands there.
	wantFlaw(t, f.with("table", []byte("abcdefghi")).with("pad2", []byte{0}).bytes(), at, api.ErrTable)
	none8 := le(-1, -1, -1, -1, -1, -2, -3, -1)
	wantFlaw(t, f.with("strings", none8).with("head", le(0x11a, 5, 4, 6, 8, 0)).with("table", nil).with("pad2", nil).with("xnames", le(0, 3, 6, 9, 11, 14, 17, 20, 23, 99)).bytes(), f.at("xnames")-10+18, api.ErrTable)
}

// TestReadLongStrings: P3.2 (Read), strings and names of 1,000 bytes and of one more.
func TestReadLongStrings(t *testing.T) {
	for _, n := range []int{999, 1000, 1001, 2000} {
		s := strings.Repeat("x", n)
		b := slices.Concat(le(0x11a, 2, 0, 0, 3, n+1), []byte("n\x00"), le(-1, n-1, 0), []byte(s+"\x00"))
		ext := slices.Concat(le(0x11a, 2, 0, 0, 0, 0), []byte("n\x00"), le(0, 0, 2, 4, n+5), le(n, 0), le(2, 0), []byte(s+"\x00"), []byte("E\x00F\x00"))
		name := slices.Concat(le(0x11a, 2, 0, 0, 0, 0), []byte("n\x00"), le(2, 0, 0, 2, n+3), []byte{1, 1}, le(0, 2), []byte("E\x00"+s+"\x00"))
		if n > 1000 {
			wantFlaw(t, b, 14+4, api.ErrTable)
			wantFlaw(t, ext, 24+2, api.ErrTable)
			wantFlaw(t, name, 24+2+2, api.ErrTable)
			continue
		}
		wantTerm(t, b, api.Term{Names: "n", Strs: []api.Cap{none, text("x"), text(s)}})
		wantTerm(t, name, api.Term{Names: "n", Exts: []api.Ext{{Kind: kindFlag, Name: "E", Cap: flag}, {Kind: kindFlag, Name: s, Cap: flag}}})
		// The names begin behind the string with the greatest index: of it, only its byte 0 is left here.
		wantTerm(t, ext, api.Term{Names: "n", Exts: []api.Ext{{Kind: kindText, Name: "F", Cap: text("")}, {Kind: kindText, Name: "E", Cap: text(s)}}})
	}
}

// TestReadExtCounts: P3.2 (Read), ErrCount in the extended part.
func TestReadExtCounts(t *testing.T) {
	f := hand()
	at := f.at("counts")
	for _, c := range []struct {
		counts []int
		wrong  int
	}{
		{[]int{-1, 2, 5, 13, 36}, 0}, {[]int{-32768, 2, 5, 13, 36}, 0}, {[]int{3, -1, 5, 13, 36}, 1}, {[]int{3, 2, -1, 13, 36}, 2},
		{[]int{3, 2, 5, -1, 36}, 3}, {[]int{3, 2, 5, 13, -1}, 4}, {[]int{-1, -1, -1, -1, -1}, 0}, {[]int{3, 2, 5, -1, -1}, 3},
		{[]int{257, 0, 0, 13, 36}, 2}, {[]int{0, 257, 0, 13, 36}, 2}, {[]int{0, 0, 257, 13, 36}, 2}, {[]int{100, 100, 57, 13, 36}, 2},
		{[]int{32767, 32767, 32767, 13, 36}, 2}, {[]int{300, -1, 0, 13, 36}, 1}, {[]int{300, 0, -1, 13, 36}, 2},
		// From left to right: the third is wrong ahead of those behind it.
		{[]int{200, 100, 0, -1, 36}, 2}, {[]int{200, 100, 0, 13, -1}, 2},
	} {
		b := f.with("counts", le(c.counts...)).bytes()
		wantFlaw(t, b, at+2*c.wrong, api.ErrCount)
		wantFlaw(t, b[:at+10], at+2*c.wrong, api.ErrCount)
		wantFlaw(t, b[:at+9], at+9, api.ErrEnds)
	}
	for _, counts := range [][]int{{256, 0, 0, 256, 0}, {0, 256, 0, 256, 0}, {0, 0, 256, 256, 0}, {100, 100, 56, 256, 32767}} {
		b := f.with("counts", le(counts...)).upTo("counts").bytes()
		wantFlaw(t, b, len(b), api.ErrEnds)
	}
	for _, total := range []int{0, 10, 12, 14, 15, 32767} {
		b := f.with("counts", le(3, 2, 5, total, 36)).bytes()
		wantFlaw(t, b, at+6, api.ErrCount)
		wantFlaw(t, b[:len(b)-1], len(b)-1, api.ErrEnds)
		wantFlaw(t, append(b, 0), at+6, api.ErrCount)
	}
	// The fourth count comes before strings and names that are wrong.
	wantFlaw(t, f.with("xstrings", le(8, -2, 99, 1, 3)).bytes(), at+6, api.ErrCount)
	wantFlaw(t, f.with("xnames", le(-1, 3, 6, 9, 11, 14, 17, 20, 23, 10)).with("counts", le(3, 2, 5, 12, 36)).bytes(), at+6, api.ErrCount)
}

// TestReadExtStrings: P3.2 (Read), ErrTable in the extended part, for strings and then for names.
func TestReadExtStrings(t *testing.T) {
	f := hand()
	for _, c := range []struct {
		section string
		shorts  []int
		wrong   int
	}{
		{"xstrings", []int{36, -2, 0, 1, -1}, 0}, {"xstrings", []int{37, -2, 0, 1, -1}, 0}, {"xstrings", []int{8, -2, 32767, 36, -1}, 2}, {"xstrings", []int{8, -2, 0, 36, -1}, 3},
		{"xnames", []int{-1, 3, 6, 9, 11, 14, 17, 20, 23, 10}, 0}, {"xnames", []int{-2, 3, 6, 9, 11, 14, 17, 20, 23, 10}, 0},
		{"xnames", []int{0, 3, 6, 9, 11, 14, 17, 20, 23, -1}, 9}, {"xnames", []int{0, 3, 6, 9, 11, 14, 17, 20, 27, -1}, 8},
		{"xnames", []int{0, 3, 6, 9, 11, 14, 28, 20, 23, 10}, 6}, {"xnames", []int{0, 3, 6, 9, 11, 14, 32767, 20, 23, 10}, 6},
		{"xnames", []int{0, 3, 6, 9, 11, 14, 17, 20, 23, 26}, 9}, {"xnames", []int{2, 3, 6, 9, 11, 14, 17, 20, 23, 10}, 0},
		{"xnames", []int{0, 0, 6, 9, 11, 14, 17, 20, 23, 10}, 1}, {"xnames", []int{0, 3, 6, 9, 11, 14, 17, 20, 23, 0}, 9}, {"xnames", []int{0, 3, 6, 9, 11, 14, 17, 17, 0, 0}, 7},
	} {
		wantFlaw(t, f.with(c.section, le(c.shorts...)).bytes(), f.at(c.section)+2*c.wrong, api.ErrTable)
	}
	both := f.with("xstrings", le(8, -2, 0, 36, -1)).with("xnames", le(-1, 3, 6, 9, 11, 14, 17, 20, 23, 10))
	wantFlaw(t, both.bytes(), f.at("xstrings")+6, api.ErrTable)
	wantFlaw(t, append(both.bytes(), 0), f.at("xstrings")+6, api.ErrTable)
	// A table without a byte 0 at its end, behind which one stands.
	xtable := f[f.index("xtable")].b
	open := f.with("xtable", append(xtable[:26:26], 'o', 'p', 'e', 'n', '.', '.', '.', '.', '.', '.'))
	wantFlaw(t, append(open.bytes(), 0), f.at("xnames")+12, api.ErrTable)
	eachPlace(func(name string, kind, _ int) {
		b := slices.Concat(le(0x11a, 2, 0, 0, 0, 0), []byte("n\x00"), le(0, 0, 2, 2, 3+len(name)), le(-1, -1), le(0, 2), []byte("E\x00"+name+"\x00"))
		wantFlaw(t, b, 14+10+4+2, api.ErrTable)
	})
}

// TestReadRest: P3.2 (Read), ErrRest at the first byte behind the extended part.
func TestReadRest(t *testing.T) {
	b := hand().bytes()
	for n := range 4 {
		if len(b)%2 != 0 {
			t.Fatal("the file ends at an odd position")
		}
		wantFlaw(t, append(b[:len(b):len(b)], make([]byte, n+1)...), len(b), api.ErrRest)
	}
	odd := slices.Concat(le(0x11a, 2, 0, 0, 0, 0), []byte("n\x00"), le(0, 0, 0, 0, 1), []byte{7})
	wantTerm(t, odd, api.Term{Names: "n"})
	wantFlaw(t, append(odd, 0), len(odd), api.ErrRest)
	// Without an extended part, further bytes are the beginning of one.
	none := slices.Concat(le(0x11a, 2, 0, 0, 0, 0), []byte("n\x00"))
	wantTerm(t, append(none, make([]byte, 10)...), api.Term{Names: "n"})
	for n := 1; n < 10; n++ {
		wantFlaw(t, append(none, make([]byte, n)...), len(none)+n, api.ErrEnds)
	}
	wantFlaw(t, append(none, make([]byte, 11)...), len(none)+10, api.ErrRest)
}

// TestReadOwnership: R3, that a Term does not change with the bytes that it was read from.
func TestReadOwnership(t *testing.T) {
	b := hand().bytes()
	term, _, err := Read(b)
	clear(b)
	if err != api.OK || !identical(term, handTerm()) {
		t.Error("the Term is now", term)
	}
	b = wantWritten(t, term)
	clear(b[:cap(b)])
	if !identical(term, handTerm()) {
		t.Error("the Term is now", term)
	}
}

// TestReadShared: P3.6 with THE BOUND, a small file whose strings are long because they share bytes: Write has no room for them.
func TestReadShared(t *testing.T) {
	for _, n := range []int{32, 33, 512} {
		b := slices.Concat(le(0x11a, 2, 0, 0, n, 1001), []byte("n\x00"), make([]byte, 2*n), bytes.Repeat([]byte{'x'}, 1000), []byte{0})
		term, _, err := Read(b)
		if err != api.OK || len(term.Strs) != n || len(term.Strs[n-1].Text) != 1000 {
			t.Fatal(strconv.Itoa(n)+" strings:", err)
		}
		want := api.OK
		if n > 32 {
			want = api.ErrLong
		}
		if _, err := Write(term); err != want {
			t.Errorf("Write of %d strings returns %d", n, err)
		}
		checkFile(t, b)
	}
}
