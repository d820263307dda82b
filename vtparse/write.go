package vtparse

import (
	"slices"
	"strconv"

	"lanyard/api"
	"lanyard/ucell"
)

// Write returns bytes that tell a terminal to do exactly a.
func Write(a api.Action) ([]byte, api.Errno) {
	b := encode(a)
	// The parser itself tells which actions no bytes come to.
	if !Same(All(b), []api.Action{a}) {
		return nil, api.ErrArg
	}
	return b, api.OK
}

// encode returns the bytes of a as if there were some for each action of its Kind.
func encode(a api.Action) []byte {
	switch a.Kind {
	case api.ActPrint:
		return ucell.Bytes([]rune{a.Rune})
	case api.ActExecute:
		return []byte{a.Final}
	case api.ActEsc:
		return slices.Concat([]byte{codeEscape}, []byte(a.Inter), []byte{a.Final})
	case api.ActCsi:
		return encodeCsi(a)
	case api.ActOsc:
		return slices.Concat([]byte{codeEscape, ']'}, []byte(a.Text), []byte{codeBell})
	}
	return nil
}

func encodeCsi(a api.Action) []byte {
	b := []byte{codeEscape, '['}
	if a.Private != 0 {
		b = append(b, a.Private)
	}
	for i, n := range a.Params {
		if i > 0 {
			b = append(b, ';')
		}
		if n != -1 {
			b = strconv.AppendInt(b, int64(n), 10)
		}
	}
	b = append(b, a.Inter...)
	return append(b, a.Final)
}
