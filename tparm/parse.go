package tparm

import (
	"strings"

	"lanyard/api"
)

// item is a percent sequence, or a run of bytes that stand for themselves.
type item struct {
	at   int    // its position in the string
	verb byte   // what it does
	num  int32  // the number of a constant or of a parameter, the letter of a variable
	text string // bytes that stand for themselves
	form format
}

// Most verbs are the byte that says in the string what a sequence does. These are not.
const (
	verbText byte = 0   // bytes that stand for themselves: no sequence has a byte 0 there
	verbNum  byte = '{' // a constant, also one that is written between ' and '
)

const (
	plainVerbs  = "%cil+-*/m&|^=><AO!~?te;" // with nothing behind them
	formatVerbs = "doxXs"
	plainFlags  = "# 0"
	colonFlags  = "# 0-+" // behind a colon: without it - and + are operations

	maxDigits  = 9
	maxInteger = 999999999
)

// parse returns what s is made of, or the position of its first invalid sequence.
func parse(s string) ([]item, int, api.Errno) {
	var l []item
	for at := 0; at < len(s); {
		it, size := first(s[at:])
		if size == 0 {
			return nil, at, api.ErrParm
		}
		it.at = at
		l = append(l, it)
		at += size
	}
	return l, 0, api.OK
}

// first returns the item at the beginning of s, which is not empty, and its size: 0 if it is invalid.
func first(s string) (item, int) {
	switch end := strings.IndexByte(s, '%'); end {
	case 0:
		return sequence(s)
	case -1:
		return item{verb: verbText, text: s}, len(s)
	default:
		return item{verb: verbText, text: s[:end]}, end
	}
}

// sequence returns the percent sequence at the beginning of s, and its size: 0 if it is invalid.
func sequence(s string) (item, int) {
	if len(s) < 2 {
		return item{}, 0
	}
	switch verb := s[1]; verb {
	case 'p':
		if len(s) > 2 && '1' <= s[2] && s[2] <= '9' {
			return item{verb: verb, num: int32(s[2] - '0')}, 3
		}
	case 'P', 'g':
		if len(s) > 2 && isLetter(s[2]) {
			return item{verb: verb, num: int32(s[2])}, 3
		}
	case '\'':
		if len(s) > 3 && s[3] == '\'' {
			return item{verb: verbNum, num: int32(s[2])}, 4
		}
	case '{':
		return integer(s)
	default:
		if strings.IndexByte(plainVerbs, verb) >= 0 {
			return item{verb: verb}, 2
		}
		return formatted(s)
	}
	return item{}, 0
}

// integer is sequence for an s that begins with %{.
func integer(s string) (item, int) {
	at, sign := 2, int32(1)
	if strings.HasPrefix(s[at:], "-") {
		at, sign = at+1, -1
	}
	n, size := number(s[at:], maxInteger)
	at += size
	if size == 0 || size > maxDigits || !strings.HasPrefix(s[at:], "}") {
		return item{}, 0
	}
	return item{verb: verbNum, num: sign * int32(n)}, at + 1
}

// formatted is sequence for an s that begins with a format.
func formatted(s string) (item, int) {
	f := format{precision: noPrecision}
	at, flags := 1, plainFlags
	if s[at] == ':' {
		at, flags = at+1, colonFlags
	}
	for at < len(s) && strings.IndexByte(flags, s[at]) >= 0 {
		f.set(s[at])
		at++
	}
	width, size := number(s[at:], api.MaxWidth+1)
	f.width = width
	at += size
	if strings.HasPrefix(s[at:], ".") {
		f.precision, size = number(s[at+1:], api.MaxWidth+1)
		at += 1 + size
	}
	if at == len(s) || strings.IndexByte(formatVerbs, s[at]) < 0 || max(f.width, f.precision) > api.MaxWidth {
		return item{}, 0
	}
	return item{verb: s[at], form: f}, at + 1
}

// number returns the number that the digits at the beginning of s make, but at most the greatest one, and how many digits these are.
func number(s string, greatest int) (int, int) {
	n, size := 0, 0
	for size < len(s) && isDigit(s[size]) {
		n = min(10*n+int(s[size]-'0'), greatest)
		size++
	}
	return n, size
}

func isDigit(b byte) bool { return '0' <= b && b <= '9' }
