package histfile

import (
	"math/rand/v2"
	"regexp"
	"slices"
	"strconv"
	"strings"
	"testing"

	"lanyard/api"
	"lanyard/simfs"
)

// stampForm is what the chapter calls a stamp.
var stampForm = regexp.MustCompile(`\A#[0-9]{0,12}\z`)

// modelLines are the lines of a file: those that end at a newline, and what follows the last one, if anything.
func modelLines(file string) []string {
	parts := strings.Split(file, "\n")
	if last := len(parts) - 1; parts[last] == "" {
		parts = parts[:last]
	}
	return parts
}

func modelCounts(line string) bool { return line != "" && !stampForm.MatchString(line) }

// modelTime looks at the lines between the line at i and the one ahead of it that counts: at the last stamp of them, and for an empty line behind it.
func modelTime(lines []string, i int) int64 {
	first := i
	for first > 0 && !modelCounts(lines[first-1]) {
		first--
	}
	between := lines[first:i]
	for j, line := range slices.Backward(between) {
		if !stampForm.MatchString(line) {
			continue
		}
		if slices.Contains(between[j:], "") {
			return 0
		}
		n, _ := strconv.ParseInt("0"+line[1:], 10, 64)
		return n
	}
	return 0
}

func modelParse(file string) []api.HistLine {
	var l []api.HistLine
	lines := modelLines(file)
	for i, line := range lines {
		if modelCounts(line) {
			l = append(l, api.HistLine{Text: line, Time: modelTime(lines, i)})
		}
	}
	return l
}

// modelLast goes back from the end, line by line, as long as not more than n of them count.
func modelLast(file string, n int) string {
	last := ""
	if n <= 0 {
		return last
	}
	for _, line := range slices.Backward(strings.SplitAfter(file, "\n")) {
		if modelCounts(strings.TrimSuffix(line, "\n")) {
			n--
		}
		if n < 0 {
			break
		}
		last = line + last
	}
	return last
}

func modelFormat(times bool, l []api.HistLine) string {
	file := ""
	for _, line := range l {
		if times && line.Time > 0 {
			file += "#" + strconv.FormatInt(line.Time, 10) + "\n"
		}
		file += line.Text + "\n"
	}
	return file
}

func modelCheck(l []api.HistLine) api.Errno {
	for _, line := range l {
		if line.Text == "" || strings.Contains(line.Text, "\n") || stampForm.MatchString(line.Text) {
			return 110
		}
		if line.Time < 0 || line.Time > 999999999999 {
			return 1
		}
	}
	return 0
}

func withoutTimes(l []api.HistLine) []api.HistLine {
	l = slices.Clone(l)
	for i := range l {
		l[i].Time = 0
	}
	return l
}

// checkFile holds all that can be asked of a file's contents against the model, and against P11.4 and P11.6.
func checkFile(t *testing.T, file string) {
	t.Helper()
	l := Parse([]byte(file))
	if want := modelParse(file); !slices.Equal(l, want) {
		t.Fatalf("Parse(%q): %s, not %s", file, shown(l), shown(want))
	}
	checkRound(t, l)
	for n := -1; n <= len(l)+1; n++ {
		last := string(Last([]byte(file), n))
		if want := modelLast(file, n); last != want {
			t.Fatalf("Last(%q, %d): %q, not %q", file, n, last, want)
		}
		if got, want := Parse([]byte(last)), l[len(l)-min(max(n, 0), len(l)):]; !slices.Equal(got, want) {
			t.Fatalf("Last(%q, %d) has the lines %s, not %s", file, n, shown(got), shown(want))
		}
	}
}

// checkRound holds Format of lines that a file can have against the model and P11.4.
func checkRound(t *testing.T, l []api.HistLine) {
	t.Helper()
	for _, times := range []bool{true, false} {
		want := l
		if !times {
			want = withoutTimes(l)
		}
		b, err := Format(times, l...)
		if string(b) != modelFormat(times, l) || err != api.OK {
			t.Fatalf("Format(%v) of %s: %q, %d", times, shown(l), b, err)
		}
		if got := Parse(b); !slices.Equal(got, want) {
			t.Fatalf("Parse of Format(%v): %s, not %s", times, shown(got), shown(want))
		}
	}
}

// TestShortFiles: P11.1, P11.3, P11.4 and P11.6 for each short file of a few bytes.
func TestShortFiles(t *testing.T) {
	var try func(file string, left int)
	try = func(file string, left int) {
		checkFile(t, file)
		if left == 0 {
			return
		}
		for _, c := range []string{"\n", "#", "7", "x"} {
			try(file+c, left-1)
		}
	}
	try("", 8)
}

// fileLines are lines that files of the tests are made of.
var fileLines = []string{"", "", "#", "#1", "#20", "#999999999999", "#1000000000000", "#x", "a", "b", "b c", "\r", "#5\r", "\xff\x00"}

func randomFile(random *rand.Rand, most int) string {
	file := ""
	for range random.IntN(most + 1) {
		file += fileLines[random.IntN(len(fileLines))] + "\n"
	}
	return file[:len(file)-min(random.IntN(3), len(file))]
}

// TestRandomFiles: the same for longer files.
func TestRandomFiles(t *testing.T) {
	random := rand.New(rand.NewPCG(11, 1))
	for range 20000 {
		checkFile(t, randomFile(random, 20))
	}
}

// TestRandomLines: P11.1 and P11.4 for lines of which some cannot be in a file.
func TestRandomLines(t *testing.T) {
	random := rand.New(rand.NewPCG(11, 4))
	times := []int64{0, 0, 1, 10, 99, api.MaxTime, api.MaxTime, 5, 5, -1, api.MaxTime + 1}
	right := 0
	for range 50000 {
		l := make([]api.HistLine, random.IntN(4))
		for i := range l {
			l[i] = api.HistLine{Text: fileLines[random.IntN(len(fileLines))], Time: times[random.IntN(len(times))]}
		}
		want := modelCheck(l)
		if got := Check(l...); got != want {
			t.Fatalf("Check of %s: %d, not %d", shown(l), got, want)
		}
		if want == api.OK {
			checkRound(t, l)
			right++
		} else if b, err := Format(true, l...); b != nil || err != want {
			t.Fatalf("Format of %s: %q, %d, not %d", shown(l), b, err, want)
		}
	}
	if right < 5000 {
		t.Error("only", right, "were right")
	}
}

// FuzzFile: any contents of a file, and its lines one by one as texts.
func FuzzFile(f *testing.F) {
	f.Add("#9\n\n#5\na\n#x\n#\n")
	f.Add("a\r\n#123456789012\n#1234567890123\nb")
	f.Fuzz(func(t *testing.T, file string) {
		checkFile(t, file)
		for i, text := range append(modelLines(file), file) {
			l := []api.HistLine{{Text: "a", Time: int64(i)}, {Text: text, Time: int64(i) - 1}}
			if got, want := Check(l...), modelCheck(l); got != want {
				t.Fatalf("Check of %s: %d, not %d", shown(l), got, want)
			}
			if _, is := Stamp(text); is != stampForm.MatchString(text) {
				t.Fatalf("Stamp of %q: %v", text, is)
			}
		}
	})
}

// action is a call that changes a history file: Write, Append or Truncate.
type action struct {
	name  string
	times bool
	lines []api.HistLine
	n     int
}

func (a action) String() string {
	return a.name + " of " + shown(a.lines) + " (" + strconv.FormatBool(a.times) + ", " + strconv.Itoa(a.n) + ")"
}

func (a action) do(f *simfs.FS) api.Errno {
	switch a.name {
	case "Write":
		return Write(f, "/h", a.times, a.lines...)
	case "Append":
		return Append(f, "/h", a.times, a.lines...)
	}
	return Truncate(f, "/h", a.n)
}

// model does the same as the chapter says it, call by call.
func (a action) model(f *simfs.FS) api.Errno {
	b := []byte(modelFormat(a.times, a.lines))
	if a.name == "Write" {
		return modelReplace(f, b)
	}
	old, err := f.Read("/h")
	if err != api.OK && (a.name == "Truncate" || err != api.ErrNone) {
		return err
	}
	if a.name == "Truncate" {
		if len(modelParse(string(old))) <= a.n {
			return api.OK
		}
		return modelReplace(f, []byte(modelLast(string(old), a.n)))
	}
	if len(a.lines) == 0 {
		return api.OK
	}
	if len(old) > 0 && old[len(old)-1] != 10 {
		b = slices.Concat([]byte{10, 10}, b)
	}
	return f.Append("/h", b)
}

func modelReplace(f *simfs.FS, b []byte) api.Errno {
	err := f.Write("/h.tmp", b)
	if err == api.OK {
		err = f.Rename("/h.tmp", "/h")
	}
	if err != api.OK && err != api.ErrDown {
		f.Remove("/h.tmp")
	}
	return err
}

// added returns the new lines of an action as they are read again.
func (a action) added() []api.HistLine {
	if a.times {
		return a.lines
	}
	return withoutTimes(a.lines)
}

// goal returns the lines that a file has that had the old ones, once the action returned OK.
func (a action) goal(old []api.HistLine) []api.HistLine {
	switch a.name {
	case "Write":
		return a.added()
	case "Append":
		return slices.Concat(old, a.added())
	}
	return old[len(old)-min(a.n, len(old)):]
}

// allowed reports whether P11.5 allows that a file that had the old lines has the lines got after a call that returned err.
func (a action) allowed(old, got []api.HistLine, err api.Errno) bool {
	goal := a.goal(old)
	switch {
	case err == api.OK:
		return slices.Equal(got, goal)
	case a.name != "Append":
		return slices.Equal(got, old) || slices.Equal(got, goal)
	case len(got) < len(old) || len(got) > len(goal):
		return false
	case len(got) == len(old):
		return slices.Equal(got, old)
	}
	last := len(got) - 1
	return slices.Equal(got[:last], goal[:last]) && got[last].Time == goal[last].Time && strings.HasPrefix(goal[last].Text, got[last].Text)
}

var actions = []action{
	{"Write", true, []api.HistLine{ls, cd}, 0},
	{"Write", false, []api.HistLine{ls, cd, x}, 0},
	{"Write", true, nil, 0},
	{"Append", true, []api.HistLine{ls, cd, {Text: "#1 y", Time: 12}, {Text: "z\r", Time: 3}}, 0},
	{"Append", true, []api.HistLine{x, {Text: "#x"}, {Text: "#1234567890123"}}, 0},
	{"Append", false, []api.HistLine{ls, cd}, 0},
	{"Append", true, nil, 0},
	{"Truncate", false, nil, 0},
	{"Truncate", false, nil, 1},
	{"Truncate", false, nil, 2},
	{"Truncate", false, nil, 9},
}

// oldFiles are contents of files before a call with a fault; "none" stands for no file. None of them ends with a whole stamp.
var oldFiles = []string{"none", "", "\n", "a\n", "a", "#5", "#5\na\n", "#5\na", "a\n#5\nb\n", "a\n#5", "#5\na\n#", "a\n\n", "a\n#5\n\n", "#1\na\n\nb\n#2\n#3\nc\n\n#\nd\n"}

// withOld returns a file system with one of these files.
func withOld(t *testing.T, old string) *simfs.FS {
	if old == "none" {
		return with(t, "/k", "kept\n")
	}
	return with(t, "/h", old, "/k", "kept\n")
}

// linesOf returns the lines of /h, none if there is no such file.
func linesOf(t *testing.T, f *simfs.FS) []api.HistLine {
	t.Helper()
	l, err := Read(f, "/h")
	if err != api.OK && err != api.ErrNone {
		t.Fatal("Read returns", err)
	}
	return l
}

// forFaults calls what is to be tried for each kind of a fault, and for each call and number of bytes that can have it.
func forFaults(try func(k, kind, keep int)) {
	for k := range 5 {
		for kind := range api.FaultCrash + 1 {
			for keep := range 45 {
				try(k, kind, keep)
			}
		}
	}
}

// TestFaults: P11.2, P11.3 and P11.5, each action with each fault, held against the model call by call, and against what P11.5 allows.
func TestFaults(t *testing.T) {
	for _, old := range oldFiles {
		for _, a := range actions {
			forFaults(func(k, kind, keep int) {
				what := a.String() + " to " + strconv.Quote(old) + ", fault " + strconv.Itoa(kind) + " at " + strconv.Itoa(k) + " with " + strconv.Itoa(keep)
				f := withOld(t, old)
				before := linesOf(t, f)
				f.SetFault(k, kind, keep)
				m := f.Clone()
				err, wanted := a.do(f), a.model(m)
				if err != wanted || f.Calls() != m.Calls() || f.Down() != m.Down() || !slices.Equal(files(f), files(m)) {
					t.Fatalf("%s: %d, %d calls, %q, not %d, %d, %q", what, err, f.Calls(), files(f), wanted, m.Calls(), files(m))
				}
				up(f)
				if got := linesOf(t, f); !a.allowed(before, got, err) {
					t.Fatalf("%s returns %d and leaves %s", what, err, shown(got))
				}
				checkLeft(t, what, f, err)
			})
		}
	}
}

// up lets a system be up and without a fault.
func up(f *simfs.FS) {
	f.Restart()
	f.SetFault(0, api.FaultNone, 0)
}

// checkLeft finds out that other files are as they were, that the other file is left by a crash alone, and that the next Write or Truncate goes on without it.
func checkLeft(t *testing.T, what string, f *simfs.FS, err api.Errno) {
	t.Helper()
	if b, _ := f.Read("/k"); string(b) != "kept\n" {
		t.Fatalf("%s: another file has %q", what, b)
	}
	if is, _ := f.Is("/h.tmp"); is && err != api.ErrDown {
		t.Fatalf("%s leaves /h.tmp", what)
	}
	if next := Write(f, "/h", true, ls); next != api.OK || shown(linesOf(t, f)) != "ls@100" || len(files(f)) != 4 {
		t.Fatalf("%s: the next Write returns %d and leaves %q", what, next, files(f))
	}
}

// TestAppendAfterFault: P11.5 and P11.2, what an Append leaves that had a fault does not touch the lines of the next one. (Where a whole stamp is left, its line may get that time: the new lines have times of their own.)
func TestAppendAfterFault(t *testing.T) {
	next := action{"Append", true, []api.HistLine{{Text: "next", Time: 77}, {Text: "later"}}, 0}
	for _, old := range oldFiles {
		for _, a := range actions {
			if a.name != "Append" {
				continue
			}
			for keep := range 45 {
				f := withOld(t, old)
				f.SetFault(2, api.FaultCrash, keep)
				a.do(f)
				up(f)
				before := linesOf(t, f)
				if err := next.do(f); err != api.OK || !next.allowed(before, linesOf(t, f), err) {
					t.Fatalf("%s to %q with a crash after %d bytes, and another: %d, %s", a, old, keep, err, shown(linesOf(t, f)))
				}
			}
		}
	}
}

// TestRandomActions: P11.2 to P11.5, sequences of actions with faults now and then, held against the model.
func TestRandomActions(t *testing.T) {
	random := rand.New(rand.NewPCG(11, 5))
	for range 2000 {
		f := with(t, "/h", randomFile(random, 6))
		m := f.Clone()
		for range 12 {
			a := actions[random.IntN(len(actions))]
			if random.IntN(3) == 0 {
				k, kind, keep := random.IntN(4), random.IntN(4), random.IntN(30)
				f.SetFault(k, kind, keep)
				m.SetFault(k, kind, keep)
			}
			err, wanted := a.do(f), a.model(m)
			if err != wanted || f.Calls() != m.Calls() || f.Down() != m.Down() || !slices.Equal(files(f), files(m)) {
				t.Fatalf("%s: %d, %q, not %d, %q", a, err, files(f), wanted, files(m))
			}
			f.Restart()
			m.Restart()
		}
	}
}
