// Package ucell is layer 1: runes decoded from arbitrary bytes, their widths on a screen, and the cells that they occupy.
package ucell

import "unicode/utf8"

// Runes returns the runes that b encodes; a byte that begins no encoding becomes api.Bad.
func Runes(b []byte) []rune {
	var l []rune
	for len(b) > 0 {
		// An encoding that is cut off or not the shortest gives utf8.RuneError, which is api.Bad, for a single byte.
		r, size := utf8.DecodeRune(b)
		l = append(l, r)
		b = b[size:]
	}
	return l
}

// Bytes returns the encodings of the runes of l; a value that is not a valid rune is encoded as api.Bad.
func Bytes(l []rune) []byte {
	var b []byte
	for _, r := range l {
		b = utf8.AppendRune(b, r)
	}
	return b
}
