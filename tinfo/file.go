package tinfo

import "lanyard/api"

// What a file is made of, besides what an entry is made of.
const (
	magicShort = 0x11a // of a file with numbers of 16 bits
	magicWide  = 0x21e // of one with numbers of 32 bits
	shortSize  = 2
	wideSize   = 4

	flagIs   = 1
	flagNone = 0
	flagGone = 254

	// A number, or the index of a string, that is absent or cancelled.
	valueNone = -1
	valueGone = -2

	maxTable = 32767 // bytes of a table of strings, so that a short can count them
)

// numberSize returns how many bytes a number has.
func numberSize(wide bool) int {
	if wide {
		return wideSize
	}
	return shortSize
}

// flagState returns the state of a flag that a file states by b.
func flagState(b byte) int {
	switch b {
	case flagNone:
		return api.CapNone
	case flagGone:
		return api.CapGone
	}
	return api.CapIs
}

// valueState returns the state of a capability that a file states by a number or an index.
func valueState(n int) int {
	switch {
	case n >= 0:
		return api.CapIs
	case n == valueGone:
		return api.CapGone
	}
	return api.CapNone
}

// stateByte returns how a file states a flag.
func stateByte(state int) byte {
	switch state {
	case api.CapIs:
		return flagIs
	case api.CapGone:
		return flagGone
	}
	return flagNone
}

// stateValue returns how a file states a capability that has the value n if it is there.
func stateValue(state, n int) int {
	switch state {
	case api.CapIs:
		return n
	case api.CapGone:
		return valueGone
	}
	return valueNone
}
