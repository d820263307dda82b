package histfile

import (
	"bytes"
	"iter"
	"strconv"
	"strings"

	"lanyard/api"
)

const (
	newline   = "\n"
	stampMark = "#"
	maxDigits = 12 // of a stamp: as many as MaxTime has
)

// Stamp returns the number of a line that tells the time of the next one, if line is such a line.
func Stamp(line string) (int64, bool) {
	digits, marked := strings.CutPrefix(line, stampMark)
	if !marked || len(digits) > maxDigits {
		return 0, false
	}
	var number int64
	for _, digit := range []byte(digits) {
		if digit < '0' || digit > '9' {
			return 0, false
		}
		number = 10*number + int64(digit-'0')
	}
	return number, true
}

// Check returns the error of the first line that a history file cannot have.
func Check(l ...api.HistLine) api.Errno {
	for _, line := range l {
		if err := checkLine(line); err != api.OK {
			return err
		}
	}
	return api.OK
}

func checkLine(line api.HistLine) api.Errno {
	if isSkipped(line.Text) || strings.Contains(line.Text, newline) {
		return api.ErrEntry
	}
	if line.Time < 0 || line.Time > api.MaxTime {
		return api.ErrArg
	}
	return api.OK
}

// isSkipped reports whether a line of a file is none of the history.
func isSkipped(text string) bool {
	_, stamp := Stamp(text)
	return stamp || text == ""
}

// Format returns the contents of a file with these lines, and with their times if times is true.
func Format(times bool, l ...api.HistLine) ([]byte, api.Errno) {
	if err := Check(l...); err != api.OK {
		return nil, err
	}
	var b []byte
	for _, line := range l {
		if times && line.Time > 0 {
			b = append(b, stampMark...)
			b = strconv.AppendInt(b, line.Time, 10)
			b = append(b, newline...)
		}
		b = append(b, line.Text...)
		b = append(b, newline...)
	}
	return b, api.OK
}

// Parse returns the lines that a file with the contents b describes.
func Parse(b []byte) []api.HistLine {
	var l []api.HistLine
	for _, line := range entries(b) {
		l = append(l, line)
	}
	return l
}

// Last returns the end of b that describes its last n lines.
func Last(b []byte, n int) []byte {
	if n <= 0 {
		return nil
	}
	start, skipped := 0, len(Parse(b))-n
	for end := range entries(b) {
		if skipped <= 0 {
			break
		}
		start = end
		skipped--
	}
	return bytes.Clone(b[start:])
}

// entries yields the lines that b describes, each with the number of bytes up to its end.
func entries(b []byte) iter.Seq2[int, api.HistLine] {
	return func(yield func(int, api.HistLine) bool) {
		end, time := 0, int64(0)
		for line := range bytes.Lines(b) {
			end += len(line)
			text := string(bytes.TrimSuffix(line, []byte(newline)))
			if isSkipped(text) {
				// An empty line is no stamp, and leaves no time for what follows it.
				time, _ = Stamp(text)
				continue
			}
			if !yield(end, api.HistLine{Text: text, Time: time}) {
				return
			}
			time = 0
		}
	}
}
