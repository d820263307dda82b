package tparm

import "strings"

const (
	maxMillis = 999999 // milliseconds of a padding
	maxLines  = 1000
)

// Strip returns s without its padding specifications, and the sum of their times in tenths of a millisecond.
func Strip(s string, lines int) (string, int64) {
	lines = min(max(lines, 1), maxLines)
	var kept strings.Builder
	var sum int64
	for s != "" {
		time, size := padding(s, lines)
		if size == 0 {
			size = 1
			kept.WriteByte(s[0])
		}
		sum += time
		s = s[size:]
	}
	return kept.String(), sum
}

// padding returns the time of the padding specification at the beginning of s, and its size: 0 if there is none.
func padding(s string, lines int) (int64, int) {
	at := len("$<")
	if !strings.HasPrefix(s, "$<") {
		return 0, 0
	}
	millis, size := number(s[at:], maxMillis)
	at += size
	if size == 0 {
		return 0, 0
	}
	tenths := 10 * millis
	if len(s) > at+1 && s[at] == '.' && isDigit(s[at+1]) {
		tenths += int(s[at+1] - '0')
		at += 2
	}
	time := int64(min(tenths, 10*maxMillis))
	marks := marksOf(s[at:])
	at += len(marks)
	if !strings.HasPrefix(s[at:], ">") {
		return 0, 0
	}
	if strings.Contains(marks, "*") {
		time *= int64(lines)
	}
	return time, at + 1
}

// marksOf returns those of * and / that s begins with, each at most once.
func marksOf(s string) string {
	for _, marks := range []string{"*/", "/*", "*", "/"} {
		if strings.HasPrefix(s, marks) {
			return marks
		}
	}
	return ""
}
