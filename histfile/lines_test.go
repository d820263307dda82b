package histfile

import (
	"math"
	"slices"
	"strconv"
	"strings"
	"testing"

	"lanyard/api"
)

func wantErr(t *testing.T, what string, got, want api.Errno) {
	t.Helper()
	if got != want {
		t.Errorf("%s returns %d, not %d", what, got, want)
	}
}

// shown is how the tests write lines: "a@5|b@0".
func shown(l []api.HistLine) string {
	var parts []string
	for _, line := range l {
		parts = append(parts, line.Text+"@"+strconv.FormatInt(line.Time, 10))
	}
	return strings.Join(parts, "|")
}

func wantParse(t *testing.T, file, want string) {
	t.Helper()
	if got := shown(Parse([]byte(file))); got != want {
		t.Errorf("Parse(%q): %q, not %q", file, got, want)
	}
}

func wantLast(t *testing.T, file string, n int, want string) {
	t.Helper()
	if got := string(Last([]byte(file), n)); got != want {
		t.Errorf("Last(%q, %d): %q, not %q", file, n, got, want)
	}
}

func wantFormat(t *testing.T, times bool, l []api.HistLine, want string) {
	t.Helper()
	got, err := Format(times, l...)
	if string(got) != want || err != api.OK {
		t.Errorf("Format(%v) of %s: %q, %d, not %q", times, shown(l), got, err, want)
	}
}

// TestNumbers: the error and the limit that the chapter names.
func TestNumbers(t *testing.T) {
	if api.ErrEntry != 110 || api.ErrArg != 1 || api.MaxTime != 999_999_999_999 {
		t.Error("an error or a limit is another number")
	}
}

// TestLineExamples: the examples of the chapter that need no file.
func TestLineExamples(t *testing.T) {
	wantErr(t, "Check", Check(api.HistLine{Text: "#12"}), api.ErrEntry)
	wantFormat(t, true, []api.HistLine{{Text: "ls", Time: 100}, {Text: "cd /"}}, "#100\nls\ncd /\n")
	wantFormat(t, true, []api.HistLine{{Text: "ls", Time: 100}}, "#100\nls\n")
	wantParse(t, "#9\n\n#5\na\n#x\n#\n", "a@5|#x@0")
	wantParse(t, "#5\na\nb\n", "a@5|b@0")
	wantLast(t, "a\n#5\nb\n", 1, "#5\nb\n")
	if n, is := Stamp("#12"); n != 12 || !is {
		t.Error("Stamp of #12:", n, is)
	}
	if n, is := Stamp("#x"); n != 0 || is {
		t.Error("Stamp of #x:", n, is)
	}
}

// TestStamp: a # and at most 12 decimal digits, and nothing else.
func TestStamp(t *testing.T) {
	for line, want := range map[string]int64{
		"#": 0, "#0": 0, "#1": 1, "#9": 9, "#10": 10, "#007": 7, "#1234567890": 1234567890, "#2147483648": 2147483648,
		"#000000000000": 0, "#000000000001": 1, "#123456789012": 123456789012, "#999999999999": api.MaxTime,
	} {
		if n, is := Stamp(line); n != want || !is {
			t.Errorf("Stamp(%q): %d, %v, not %d", line, n, is, want)
		}
	}
	for _, line := range []string{
		"", "1", "12", "1#", " #1", "##", "##1", "#1#", "# ", "# 1", "#1 ", "#-1", "#+1", "#1.", "#1_0", "#0x1", "#1e3", "#a", "#/", "#:", "#1a", "#a1",
		"#1\n", "\n#1", "#\n", "#1\r", "#\r", "#1\x00", "#\x00", "#\xff", "#\xb2", "#\u0663", "#\uff11", "\uff03",
		"#0000000000000", "#1234567890123", "#9999999999999", "#18446744073709551617", "#" + strings.Repeat("0", 1000),
	} {
		if n, is := Stamp(line); n != 0 || is {
			t.Errorf("Stamp(%q): %d, %v", line, n, is)
		}
	}
}

// TestStampBytes: each single byte behind a #, and behind one with a digit.
func TestStampBytes(t *testing.T) {
	for c := range 256 {
		digit := c >= 48 && c <= 57
		for prefix, value := range map[string]int64{"#": 0, "#7": 70} {
			n, is := Stamp(prefix + string([]byte{byte(c)}))
			if is != digit || is && n != value+int64(c-48) || !is && n != 0 {
				t.Errorf("Stamp of %s and the byte %d: %d, %v", prefix, c, n, is)
			}
		}
	}
}

// wrongTexts are those that no line of a file can have, and rightTexts some that are nearly so.
var (
	wrongTexts = []string{"", "\n", "a\n", "\na", "a\nb", "\n\n", "#", "#0", "#12", "#999999999999", "#1\n"}
	rightTexts = []string{"a", " ", "\r", "a\r", "#1\r", "\x00", "\xff\xfe", "# ", "#a", "#1a", "##", " #1", "1", "#1234567890123", "#-1", "!!", "\u2028", "#!/bin/sh"}
)

// TestCheck: P11.1 (Check), texts, times, and the first line of several that is wrong.
func TestCheck(t *testing.T) {
	wantErr(t, "Check of nothing", Check(), api.OK)
	for _, text := range wrongTexts {
		for _, time := range []int64{0, 5, -1, api.MaxTime + 1} {
			wantErr(t, "Check of "+strconv.Quote(text), Check(api.HistLine{Text: text, Time: time}), api.ErrEntry)
		}
	}
	for _, text := range rightTexts {
		for time, want := range map[int64]api.Errno{
			0: api.OK, 1: api.OK, api.MaxTime - 1: api.OK, api.MaxTime: api.OK,
			-1: api.ErrArg, api.MaxTime + 1: api.ErrArg, math.MinInt64: api.ErrArg, math.MaxInt64: api.ErrArg,
		} {
			wantErr(t, "Check of "+strconv.Quote(text), Check(api.HistLine{Text: text, Time: time}), want)
		}
	}
	wantErr(t, "Check of a long line", Check(api.HistLine{Text: strings.Repeat("x", 3*api.MaxFile)}), api.OK)

	right, entry, arg := api.HistLine{Text: "a", Time: 3}, api.HistLine{Text: "#3"}, api.HistLine{Text: "a", Time: -3}
	for _, c := range []struct {
		l    []api.HistLine
		want api.Errno
	}{
		{[]api.HistLine{right, right}, api.OK},
		{[]api.HistLine{right, entry}, api.ErrEntry},
		{[]api.HistLine{right, arg}, api.ErrArg},
		{[]api.HistLine{entry, arg}, api.ErrEntry},
		{[]api.HistLine{arg, entry}, api.ErrArg},
		{[]api.HistLine{right, arg, right, entry}, api.ErrArg},
		{[]api.HistLine{entry, right}, api.ErrEntry},
	} {
		wantErr(t, "Check of "+shown(c.l), Check(c.l...), c.want)
		b, err := Format(true, c.l...)
		wantErr(t, "Format of "+shown(c.l), err, c.want)
		if c.want != api.OK && b != nil {
			t.Errorf("Format of %s returns %q beside its error", shown(c.l), b)
		}
	}
}

// TestFormat: P11.1 (Format).
func TestFormat(t *testing.T) {
	l := []api.HistLine{{Text: "a", Time: 1}, {Text: "b"}, {Text: " c\r", Time: api.MaxTime}, {Text: "b"}, {Text: "#d", Time: 1000000}}
	wantFormat(t, true, l, "#1\na\nb\n#999999999999\n c\r\nb\n#1000000\n#d\n")
	wantFormat(t, false, l, "a\nb\n c\r\nb\n#d\n")
	wantFormat(t, true, nil, "")
	wantFormat(t, false, nil, "")
	for _, times := range []bool{true, false} {
		for _, text := range wrongTexts {
			b, err := Format(times, api.HistLine{Text: "a"}, api.HistLine{Text: text})
			wantErr(t, "Format of "+strconv.Quote(text), err, api.ErrEntry)
			if b != nil {
				t.Errorf("Format returns %q beside its error", b)
			}
		}
		_, err := Format(times, api.HistLine{Text: "a", Time: -1})
		wantErr(t, "Format of a negative time", err, api.ErrArg)
		_, err = Format(times, api.HistLine{Text: "a", Time: api.MaxTime + 1})
		wantErr(t, "Format of a time that is too great", err, api.ErrArg)
	}
}

// TestParse: P11.1 (Parse), which stamp counts for which line.
func TestParse(t *testing.T) {
	for file, want := range map[string]string{
		"":                         "",
		"\n":                       "",
		"\n\n\n":                   "",
		"a":                        "a@0",
		"a\n":                      "a@0",
		"\na\n":                    "a@0",
		"a\n\nb":                   "a@0|b@0",
		"a\nb":                     "a@0|b@0",
		"#5":                       "",
		"#5\n":                     "",
		"#5\n\n":                   "",
		"#5\na":                    "a@5",
		"#5\na\nb\n":               "a@5|b@0",
		"#5\na\n#\nb\n":            "a@5|b@0",
		"#5\n#6\na\n":              "a@6",
		"#5\n#\na\n":               "a@0",
		"#\n#5\na\n":               "a@5",
		"#5\n\na\n":                "a@0",
		"#5\n\n#6\na\n":            "a@6",
		"#5\n#6\n\na\n":            "a@0",
		"#5\n#6\n\n#\na\n":         "a@0",
		"\n#5\na\n":                "a@5",
		"\n\n#5\na\n\n":            "a@5",
		"#5\na\n\n\nb\n":           "a@5|b@0",
		"#5\na\n#6":                "a@5",
		"#5\na\n#6\n\n#7\n":        "a@5",
		"#5\na\n#6\nb":             "a@5|b@6",
		"#5\na\na\n#5\na\n":        "a@5|a@0|a@5",
		"#5\n#x\na\n":              "#x@5|a@0",
		"#5\n#1234567890123\na\n":  "#1234567890123@5|a@0",
		"#999999999999\na\n":       "a@999999999999",
		"#000000000007\na\n":       "a@7",
		"#5\r\na\r\n":              "#5\r@0|a\r@0",
		"#5\n\r\na\n":              "\r@5|a@0",
		"a\rb\n":                   "a\rb@0",
		"#5\n \na":                 " @5|a@0",
		"#5 \na":                   "#5 @0|a@0",
		"a\x00b\n\x00\n\xff\n\x0b": "a\x00b@0|\x00@0|\xff@0|\x0b@0",
	} {
		wantParse(t, file, want)
	}
	if Parse(nil) != nil || len(Parse([]byte("#1\n\n"))) != 0 {
		t.Error("Parse of no lines returns some")
	}
	if l := Parse([]byte(strings.Repeat("x", api.MaxFile) + "\ny")); len(l) != 2 || len(l[0].Text) != api.MaxFile || l[1].Text != "y" {
		t.Error("Parse of a long line:", len(l))
	}
}

// TestLast: P11.3 (Last), which ends of a file it returns.
func TestLast(t *testing.T) {
	const file = "\n#1\n\na\n#2\n#3\nb\n\n#4\n\nc\n#5\nd\n#6\n\n"
	for n, want := range map[int]string{
		math.MinInt: "",
		-1:          "",
		0:           "",
		1:           "#5\nd\n#6\n\n",
		2:           "\n#4\n\nc\n#5\nd\n#6\n\n",
		3:           "#2\n#3\nb\n\n#4\n\nc\n#5\nd\n#6\n\n",
		4:           file,
		5:           file,
		math.MaxInt: file,
	} {
		wantLast(t, file, n, want)
	}
	for _, c := range []struct {
		file string
		n    int
		want string
	}{
		{"", 0, ""}, {"", 1, ""}, {"", -1, ""},
		{"\n", 0, ""}, {"#5\n", 0, ""}, {"#5\n", -1, ""}, {"a", 0, ""}, {"a\n#5\n", 0, ""},
		{"\n", 1, "\n"}, {"#5", 1, "#5"}, {"#5\n\n", 2, "#5\n\n"},
		{"a", 1, "a"}, {"a\n", 1, "a\n"}, {"a\nb", 1, "b"}, {"a\nb", 2, "a\nb"}, {"a\nb\n#5", 1, "b\n#5"},
		{"a\r\n\r\nb", 2, "\r\nb"}, {"a\n#5\r\nb", 2, "#5\r\nb"}, {"\n\na\n", 1, "\n\na\n"},
	} {
		wantLast(t, c.file, c.n, c.want)
	}
}

// TestLinesOwnership: R3, arguments are not changed, and what is returned is the caller's.
func TestLinesOwnership(t *testing.T) {
	const file = "#5\na\nb\n#6\nc"
	b := []byte(file + "rest")[:len(file)]
	l, all, end := Parse(b), Last(b, 9), Last(b, 1)
	if string(b[:cap(b)][:len(file)+4]) != file+"rest" {
		t.Errorf("the argument is now %q", b[:cap(b)])
	}
	clear(b)
	if shown(l) != "a@5|b@0|c@6" || string(all) != file || string(end) != "#6\nc" {
		t.Errorf("with the argument changed: %s, %q, %q", shown(l), all, end)
	}
	b = []byte(file + "rest")[:len(file)]
	for n := range 5 {
		got := Last(b, n)
		_ = append(got, "zzzz"...)
		clear(got)
	}
	if string(b[:len(file)+4]) != file+"rest" {
		t.Errorf("with the results changed: %q", b[:len(file)+4])
	}

	lines := []api.HistLine{{Text: "a", Time: 5}, {Text: "b"}, {Text: "c", Time: 6}}
	before := slices.Clone(lines)
	first, _ := Format(true, lines...)
	second, _ := Format(true, lines...)
	clear(first[:cap(first)])
	Check(lines...)
	if !slices.Equal(lines, before) || string(second) != "#5\na\nb\n#6\nc\n" {
		t.Errorf("with one result changed: %s, %q", shown(lines), second)
	}
}

// TestManyLines: THE BOUND, long files of few kinds of lines.
func TestManyLines(t *testing.T) {
	const size = 1 << 21
	for unit, each := range map[string]int{"\n": 0, "#\n": 0, "#123456789012\n": 0, "#\n\n": 0, "a\n": 1, "#1\na\n": 1, "#1\n\na\n": 1} {
		count := size / len(unit)
		b := []byte(strings.Repeat(unit, count))
		l := Parse(b)
		if len(l) != each*count {
			t.Fatalf("%d lines of %q, not %d", len(l), unit, each*count)
		}
		for _, n := range []int{1, 2, count / 2, count, count + 1} {
			want := len(b)
			if each == 1 && n < count {
				want = n * len(unit)
			}
			if got := len(Last(b, n)); got != want {
				t.Fatalf("Last of %d units %q and %d: %d bytes, not %d", count, unit, n, got, want)
			}
		}
		again, err := Format(true, l...)
		if back := Parse(again); err != api.OK || !slices.Equal(back, l) {
			t.Fatalf("Format of %d lines: %d, %d lines", len(l), err, len(back))
		}
	}
}
