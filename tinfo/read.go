package tinfo

import (
	"bytes"

	"lanyard/api"
)

// Read returns the entry that a file describes, or the position of the first wrong element of the file and what is wrong with it.
func Read(b []byte) (t api.Term, at int, err api.Errno) {
	defer func() {
		if f, wrong := recover().(flaw); wrong {
			t, at, err = api.Term{}, f.at, f.err
		}
	}()
	r := &reader{b: b}
	return r.term(), 0, api.OK
}

// flaw is what a reader panics with.
type flaw struct {
	at  int
	err api.Errno
}

func fail(at int, err api.Errno) { panic(flaw{at: at, err: err}) }

// reader reads a file section by section, and panics with the first flaw. That a part of the file ends too early comes before what is wrong in its sections: they are all taken before one is judged.
type reader struct {
	b    []byte
	at   int // where the next section begins
	size int // bytes of a number
}

func (r *reader) term() api.Term {
	count := r.header()
	t := api.Term{Wide: r.size == wideSize}
	nameStart := r.at
	names := r.take(count[0])
	t.Bools = r.flags(count[1])
	r.even()
	t.Nums = r.numbers(count[2])
	textStart := r.at
	indices := r.shorts(count[3])
	table := r.take(count[4])
	t.Names = namesOf(nameStart, names)
	t.Strs = texts(textStart, indices, table)
	if r.at == len(r.b) {
		return t
	}
	r.even()
	if r.at == len(r.b) {
		return t
	}
	t.Exts = r.ext()
	if r.at < len(r.b) {
		fail(r.at, api.ErrRest)
	}
	return t
}

// take returns the next n bytes.
func (r *reader) take(n int) []byte {
	if n > len(r.b)-r.at {
		fail(len(r.b), api.ErrEnds)
	}
	part := r.b[r.at : r.at+n]
	r.at += n
	return part
}

// even passes over a byte if what follows begins at an even position.
func (r *reader) even() { r.take(r.at % 2) }

// integers returns the next n integers of so many bytes.
func (r *reader) integers(n, size int) []int {
	var l []int
	for b := r.take(n * size); len(b) > 0; b = b[size:] {
		l = append(l, signed(b[:size]))
	}
	return l
}

// signed returns the integer of two or of four bytes, the least significant one first.
func signed(b []byte) int {
	low := uint16(b[0]) | uint16(b[1])<<8
	if len(b) == shortSize {
		return int(int16(low))
	}
	return int(int32(uint32(low) | uint32(b[2])<<16 | uint32(b[3])<<24))
}

func (r *reader) shorts(n int) []int { return r.integers(n, shortSize) }

// header returns the five counts, and learns the size of numbers.
func (r *reader) header() []int {
	head := r.shorts(6)
	switch head[0] {
	case magicShort:
		r.size = shortSize
	case magicWide:
		r.size = wideSize
	default:
		fail(0, api.ErrMagic)
	}
	count := head[1:]
	most := [...]int{maxNames + 1, maxFlags, maxNumbers, maxTexts, maxTable}
	for i, n := range count {
		if n < 0 || n > most[i] || i == 0 && n == 0 {
			fail(shortSize*(1+i), api.ErrCount)
		}
	}
	return count
}

// namesOf returns the names without the byte 0 at their end; they stand at start.
func namesOf(start int, b []byte) string {
	end := bytes.IndexByte(b, 0)
	if end < 1 || end != len(b)-1 {
		fail(start, api.ErrTable)
	}
	return string(b[:end])
}

func (r *reader) flags(n int) []api.Cap {
	var l []api.Cap
	for _, b := range r.take(n) {
		l = append(l, api.Cap{State: flagState(b)})
	}
	return l
}

func (r *reader) numbers(n int) []api.Cap {
	var l []api.Cap
	for _, num := range r.integers(n, r.size) {
		l = append(l, api.Cap{State: valueState(num), Num: max(num, 0)})
	}
	return l
}

// texts returns the capabilities whose strings begin at the indices, the first one of which stands at start.
func texts(start int, indices []int, table []byte) []api.Cap {
	var l []api.Cap
	for i, at := range indices {
		c := api.Cap{State: valueState(at)}
		if c.State == api.CapIs {
			text, ok := textAt(table, at)
			if !ok {
				fail(start+shortSize*i, api.ErrTable)
			}
			c.Text = text
		}
		l = append(l, c)
	}
	return l
}

// textAt returns the string that begins at an index of a table, and whether there is one.
func textAt(table []byte, at int) (string, bool) {
	if at < 0 || at > len(table) {
		return "", false
	}
	text, _, ended := bytes.Cut(table[at:], []byte{0})
	if !ended || len(text) > maxText {
		return "", false
	}
	return string(text), true
}
