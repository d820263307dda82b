package tparm

import (
	"strconv"
	"strings"

	"lanyard/api"
)

// format says how a value is written.
type format struct {
	left      bool // the flags
	plus      bool
	sharp     bool
	blank     bool
	zero      bool
	width     int
	precision int
}

const noPrecision = -1

// set adds a flag.
func (f *format) set(flag byte) {
	switch flag {
	case '-':
		f.left = true
	case '+':
		f.plus = true
	case '#':
		f.sharp = true
	case ' ':
		f.blank = true
	case '0':
		f.zero = true
	}
}

// apply returns p, written as C's printf writes it with that verb.
func (f format) apply(verb byte, p api.Param) string {
	if verb == 's' {
		return f.pad(f.cut(p.Text))
	}
	digits := f.digits(verb, p.Num)
	prefix := f.prefix(verb, p.Num, digits)
	if f.zero && !f.left && f.precision == noPrecision {
		prefix += repeat("0", f.width-len(prefix)-len(digits))
	}
	return f.pad(prefix + digits)
}

// cut returns what the precision leaves of s.
func (f format) cut(s string) string {
	if f.precision == noPrecision {
		return s
	}
	return s[:min(len(s), f.precision)]
}

// digits returns the digits of a number, at least as many as the precision says.
func (f format) digits(verb byte, num int32) string {
	s := plainDigits(verb, num)
	if num == 0 && f.precision == 0 {
		return ""
	}
	return repeat("0", f.precision-len(s)) + s
}

func plainDigits(verb byte, num int32) string {
	switch verb {
	case 'o':
		return strconv.FormatUint(uint64(uint32(num)), 8)
	case 'x':
		return strconv.FormatUint(uint64(uint32(num)), 16)
	case 'X':
		return strings.ToUpper(strconv.FormatUint(uint64(uint32(num)), 16))
	}
	return strings.TrimPrefix(strconv.Itoa(int(num)), "-")
}

// prefix returns what is written before the digits of a number.
func (f format) prefix(verb byte, num int32, digits string) string {
	switch {
	case verb == 'd':
		return f.sign(num)
	case !f.sharp:
		return ""
	case verb == 'o' && !strings.HasPrefix(digits, "0"):
		return "0"
	case verb != 'o' && num != 0:
		return "0" + string(verb)
	}
	return ""
}

func (f format) sign(num int32) string {
	switch {
	case num < 0:
		return "-"
	case f.plus:
		return "+"
	case f.blank:
		return " "
	}
	return ""
}

// pad returns s with blanks up to the width.
func (f format) pad(s string) string {
	blanks := repeat(" ", f.width-len(s))
	if f.left {
		return s + blanks
	}
	return blanks + s
}

// repeat returns n times s; nothing if n is below 0.
func repeat(s string, n int) string { return strings.Repeat(s, max(n, 0)) }
