package tinfo

import (
	"bytes"
	"encoding/binary"
	"math/rand/v2"
	"reflect"
	"slices"
	"strings"
	"testing"

	"lanyard/api"
)

// answer is what Read returns.
type answer struct {
	term api.Term
	at   int
	err  api.Errno
}

func read(b []byte) answer {
	term, at, err := Read(b)
	return answer{term, at, err}
}

func wrong(at int, err api.Errno) answer { return answer{at: at, err: err} }

// model says of a file what the chapter says, by the positions of all sections, without haste.
type model struct{ b []byte }

func (m *model) short(at int) int { return int(int16(binary.LittleEndian.Uint16(m.b[at:]))) }

// bytes returns a section, which ends within b.
func (m *model) bytes(at, n int) []byte { return m.b[at : at+n] }

func evenUp(at int) int { return at + at&1 }

func (m *model) caps(kind, at, n, size int) []api.Cap {
	var l []api.Cap
	for b := range slices.Chunk(m.bytes(at, n*size), size) {
		num := 0
		switch len(b) {
		case 1:
			num = map[byte]int{0: -1, 254: -2}[b[0]]
		case 2:
			num = int(int16(binary.LittleEndian.Uint16(b)))
		case 4:
			num = int(int32(binary.LittleEndian.Uint32(b)))
		}
		c := none
		if num == -2 {
			c = gone
		} else if num >= 0 {
			c = number(num)
			if kind == kindFlag {
				c = flag
			}
		}
		l = append(l, c)
	}
	return l
}

// fill gives strings their texts, for which l has indices so far; it returns the number of the first that has none, or -1.
func fill(l []api.Cap, table []byte) int {
	for i, c := range l {
		if c.State != api.CapIs {
			continue
		}
		s, ok := stringAt(table, c.Num)
		if !ok {
			return i
		}
		l[i] = text(s)
	}
	return -1
}

func stringAt(table []byte, at int) (string, bool) {
	for end := at; end >= 0 && end < len(table); end++ {
		if table[end] == 0 {
			return string(table[at:end]), end-at <= 1000
		}
	}
	return "", false
}

func modelRead(b []byte) answer {
	if len(b) < 12 {
		return wrong(len(b), api.ErrEnds)
	}
	m := &model{b: b}
	size := map[int]int{0x11a: 2, 0x21e: 4}[m.short(0)]
	if size == 0 {
		return wrong(0, api.ErrMagic)
	}
	for i, most := range []int{512, 64, 64, 512, 32767} {
		if n := m.short(2 + 2*i); n < 0 || n > most || n == 0 && i == 0 {
			return wrong(2+2*i, api.ErrCount)
		}
	}
	flagsAt := 12 + m.short(2)
	numsAt := evenUp(flagsAt + m.short(4))
	strsAt := numsAt + size*m.short(6)
	tableAt := strsAt + 2*m.short(8)
	end := tableAt + m.short(10)

	if end > len(b) {
		return wrong(len(b), api.ErrEnds)
	}
	names := m.bytes(12, m.short(2))
	if names[0] == 0 || bytes.Count(names, []byte{0}) != 1 || names[len(names)-1] != 0 {
		return wrong(12, api.ErrTable)
	}
	term := api.Term{Names: strings.TrimSuffix(string(names), "\x00"), Wide: size == 4}
	term.Bools = m.caps(kindFlag, flagsAt, m.short(4), 1)
	term.Nums = m.caps(kindNumber, numsAt, m.short(6), size)
	term.Strs = m.caps(kindText, strsAt, m.short(8), 2)
	if i := fill(term.Strs, m.bytes(tableAt, m.short(10))); i >= 0 {
		return wrong(strsAt+2*i, api.ErrTable)
	}
	if len(b) == end || len(b) == end+1 && end%2 == 1 {
		return answer{term: term}
	}
	return m.readExts(term, evenUp(end), size)
}

func (m *model) readExts(term api.Term, at, size int) answer {
	if at+10 > len(m.b) {
		return wrong(len(m.b), api.ErrEnds)
	}
	n := []int{m.short(at), m.short(at + 2), m.short(at + 4), m.short(at + 6), m.short(at + 8)}
	for i := range n {
		if n[i] < 0 || i == 2 && n[0]+n[1]+n[2] > 256 {
			return wrong(at+2*i, api.ErrCount)
		}
	}
	numsAt := evenUp(at + 10 + n[0])
	strsAt := numsAt + size*n[1]
	namesAt := strsAt + 2*n[2]
	count := n[0] + n[1] + n[2]
	tableAt := namesAt + 2*count
	end := tableAt + n[4]
	if end > len(m.b) {
		return wrong(len(m.b), api.ErrEnds)
	}
	flags, nums, strs := m.caps(kindFlag, at+10, n[0], 1), m.caps(kindNumber, numsAt, n[1], size), m.caps(kindText, strsAt, n[2], 2)
	names, greatest := tableAt, -1
	total := count
	for _, c := range strs {
		if c.State == api.CapIs {
			total++
			greatest = max(greatest, c.Num)
		}
	}
	if total != n[3] {
		return wrong(at+6, api.ErrCount)
	}
	table := m.bytes(tableAt, n[4])
	if i := fill(strs, table); i >= 0 {
		return wrong(strsAt+2*i, api.ErrTable)
	}
	if greatest >= 0 {
		s, _ := stringAt(table, greatest)
		names += greatest + len(s) + 1
	}
	seen := map[string]bool{}
	for i, c := range slices.Concat(flags, nums, strs) {
		name, ok := stringAt(m.b[names:end], m.short(namesAt+2*i))
		if _, _, known := Place(name); !ok || name == "" || seen[name] || known {
			return wrong(namesAt+2*i, api.ErrTable)
		}
		seen[name] = true
		kind := kindFlag
		if i >= n[0] {
			kind++
		}
		if i >= n[0]+n[1] {
			kind++
		}
		term.Exts = append(term.Exts, api.Ext{Kind: kind, Name: name, Cap: c})
	}
	if end < len(m.b) {
		return wrong(end, api.ErrRest)
	}
	return answer{term: term}
}

// checkFile holds what Read and Write do with a file against the model, and against P3.6.
func checkFile(t *testing.T, b []byte) api.Errno {
	t.Helper()
	before := bytes.Clone(b)
	got, want := read(b), modelRead(b)
	if got.err != want.err || got.at != want.at || !identical(got.term, want.term) {
		t.Fatalf("Read of % x\nreturns %v\nnot     %v", b, got, want)
	}
	if !bytes.Equal(b, before) {
		t.Fatal("Read changes its argument")
	}
	if got.at < 0 || got.at > len(b) || got.err != api.OK && !reflect.DeepEqual(got.term, api.Term{}) {
		t.Fatalf("Read of % x returns %v", b, got)
	}
	if got.err == api.OK {
		checkRead(t, got.term)
	}
	return got.err
}

// checkRead holds a Term that was read against P3.6.
func checkRead(t *testing.T, term api.Term) {
	t.Helper()
	if err := Check(term); err != api.OK {
		t.Fatalf("Check of %v, which was read, returns %d", term, err)
	}
	b, err := Write(term)
	if err == api.ErrLong && tableBytes(term) {
		return
	}
	if err != api.OK {
		t.Fatalf("Write of %v, which was read, returns %d", term, err)
	}
	if again := read(b); again.err != api.OK || again.at != 0 || !Same(again.term, term) {
		t.Fatalf("Read of what was written of %v returns %v", term, again)
	}
}

// tableBytes reports whether a table of the Term would be too long: strings of a file that was read may share their bytes.
func tableBytes(term api.Term) bool {
	texts, exts := 0, 0
	for _, c := range term.Strs {
		texts += len(c.Text) + 1
	}
	for _, x := range term.Exts {
		exts += len(x.Name) + len(x.Cap.Text) + 2
	}
	return texts > 32767 || exts > 32767
}

// pickTerm returns a valid Term, chosen by pick.
func pickTerm(pick func(n int) int) api.Term {
	top := 32767
	term := api.Term{Names: pickText(pick, "ab|"), Wide: pick(2) == 0}
	if term.Wide {
		top = 1<<31 - 1
	}
	if term.Names == "" {
		term.Names = "n"
	}
	cap := func(kind int) api.Cap {
		switch state := pick(4); {
		case state == 0:
			return none
		case state == 1:
			return gone
		case kind == kindNumber:
			return number([]int{0, 1, 255, 256, 32767, top, top - 1, top / 3}[pick(8)])
		case kind == kindText:
			return text(pickText(pick, "\x1b[x\xff%"))
		}
		return flag
	}
	for range pick(7) {
		term.Bools = append(term.Bools, cap(kindFlag))
	}
	for range pick(7) {
		term.Nums = append(term.Nums, cap(kindNumber))
	}
	for range pick(12) {
		term.Strs = append(term.Strs, cap(kindText))
	}
	kind := kindFlag
	for i := range pick(9) {
		kind = min(kindText, kind+pick(3)/2)
		term.Exts = append(term.Exts, api.Ext{Kind: kind, Name: string(rune('A'+i)) + pickText(pick, "xy\xfe"), Cap: cap(kind)})
	}
	return term
}

func pickText(pick func(n int) int, alphabet string) string {
	var s strings.Builder
	for range pick(6) {
		s.WriteByte(alphabet[pick(len(alphabet))])
	}
	return s.String()
}

// spoil changes a few bytes of a file.
func spoil(b []byte, pick func(n int) int) []byte {
	b = bytes.Clone(b)
	for range 1 + pick(2) {
		if len(b) == 0 {
			return b
		}
		at := pick(len(b))
		switch pick(6) {
		case 0:
			b = b[:at]
		case 1:
			b = append(b, make([]byte, 1+pick(3))...)
		case 2:
			b = slices.Delete(b, at, at+1)
		case 3:
			b = slices.Insert(b, at, byte(pick(256)))
		case 4:
			b[at] = []byte{0, 1, 2, 127, 128, 254, 255}[pick(7)]
		default:
			b[at] += byte(1 + pick(3))
		}
	}
	return b
}

// TestRoundTrip: P3.6, for many Terms and what becomes of their files when a few bytes are changed.
func TestRoundTrip(t *testing.T) {
	met := map[api.Errno]int{}
	for seed := range uint64(3000) {
		pick := rand.New(rand.NewPCG(seed, 3)).IntN
		term := pickTerm(pick)
		b := wantWritten(t, term)
		wantTerm(t, b, term)
		checkFile(t, b)
		for range 40 {
			met[checkFile(t, spoil(b, pick))]++
		}
		for n := range b {
			checkFile(t, b[:n])
		}
	}
	for _, err := range []api.Errno{api.OK, api.ErrMagic, api.ErrEnds, api.ErrCount, api.ErrTable, api.ErrRest} {
		if met[err] < 100 {
			t.Errorf("the files return %d only %d times", err, met[err])
		}
	}
}

// FuzzRead: P3.6 and G4, for bytes that the fuzzer chooses.
func FuzzRead(f *testing.F) {
	f.Add([]byte("not terminfo"))
	for _, name := range []string{"dumb", "vt220", "xterm"} {
		term, _ := Shipped(name)
		b, _ := Write(term)
		f.Add(b)
	}
	for _, wide := range []bool{false, true} {
		term := sample()
		term.Wide = wide
		b, _ := Write(term)
		f.Add(b)
	}
	f.Fuzz(func(t *testing.T, b []byte) { checkFile(t, b) })
}

// FuzzRoundTrip: P3.6, for Terms that the fuzzer chooses.
func FuzzRoundTrip(f *testing.F) {
	f.Add([]byte("flags, numbers, strings and names"))
	f.Fuzz(func(t *testing.T, b []byte) {
		pick := func(n int) int {
			if len(b) == 0 {
				return 0
			}
			x := int(b[0]) % n
			b = b[1:]
			return x
		}
		term := pickTerm(pick)
		wantTerm(t, wantWritten(t, term), term)
	})
}
