package ucell

import (
	"slices"
	"unicode/utf8"
)

// Decoder decodes runes from bytes that arrive in pieces.
type Decoder struct {
	made  bool                  // tells a decoder of New from a zero struct
	held  [utf8.UTFMax - 1]byte // an array, so that a copy of the decoder shares nothing with it
	count int
}

// New returns a decoder that holds no bytes.
func New() *Decoder { return &Decoder{made: true} }

// usable reports whether New returned d.
func (d *Decoder) usable() bool { return d != nil && d.made }

// Put returns the runes that are determined by the bytes received so far, and holds the bytes of one that has only begun.
func (d *Decoder) Put(b ...byte) []rune {
	if !d.usable() {
		return nil
	}
	rest := slices.Concat(d.held[:d.count], b)
	var l []rune
	// Bytes that cannot become an encoding any more count as full: they are decoded as api.Bad, one at a time.
	for utf8.FullRune(rest) {
		r, size := utf8.DecodeRune(rest)
		l = append(l, r)
		rest = rest[size:]
	}
	d.count = copy(d.held[:], rest)
	return l
}

// Flush returns the runes of the bytes that are held, as if nothing followed them, and holds them no longer.
func (d *Decoder) Flush() []rune {
	if !d.usable() {
		return nil
	}
	l := Runes(d.held[:d.count])
	d.count = 0
	return l
}

// Pending returns the number of bytes that are held.
func (d *Decoder) Pending() int {
	if !d.usable() {
		return 0
	}
	return d.count
}
