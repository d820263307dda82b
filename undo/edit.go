package undo

import (
	"slices"

	"lanyard/api"
)

// Apply returns line with e.Ins in the place of e.Del, if that stands at e.At.
func Apply(line []rune, e api.Edit) ([]rune, api.Errno) {
	switch {
	case !stands(line, e.At, e.Del):
		return nil, api.ErrArg
	case len(line)-len(e.Del)+len(e.Ins) > api.MaxLine:
		return nil, api.ErrLong
	}
	return slices.Concat(line[:e.At], e.Ins, line[e.At+len(e.Del):]), api.OK
}

// stands reports whether at is a place of line and the runes from there on begin with del.
func stands(line []rune, at int, del []rune) bool {
	if at < 0 || at > len(line) {
		return false
	}
	rest := line[at:]
	return len(del) <= len(rest) && slices.Equal(rest[:len(del)], del)
}

// Inverse returns the edit that takes e back.
func Inverse(e api.Edit) api.Edit {
	return api.Edit{At: e.At, Del: slices.Clone(e.Ins), Ins: slices.Clone(e.Del)}
}

// Join returns the edit that has the effect of a and then b, if b goes on where a has inserted, or removes what is before that which a has removed.
func Join(a, b api.Edit) (api.Edit, bool) {
	switch {
	case len(b.Del) == 0 && ends(a.At, a.Ins, b.At):
		return api.Edit{At: a.At, Del: slices.Clone(a.Del), Ins: slices.Concat(a.Ins, b.Ins)}, true
	case len(a.Ins) == 0 && len(b.Ins) == 0 && ends(b.At, b.Del, a.At):
		return api.Edit{At: b.At, Del: slices.Concat(b.Del, a.Del)}, true
	}
	return api.Edit{}, false
}

// ends reports whether runes that stand at at end at next; if they ended above the greatest integer, the sum would wrap round and be less than at.
func ends(at int, runes []rune, next int) bool { return next >= at && next == at+len(runes) }

// same returns an edit like e that shares no memory with it.
func same(e api.Edit) api.Edit {
	return api.Edit{At: e.At, Del: slices.Clone(e.Del), Ins: slices.Clone(e.Ins)}
}
