package histfile

import (
	"slices"
	"strings"
	"testing"

	"lanyard/api"
	"lanyard/simfs"
)

// with returns a file system with these files: paths and contents by turns.
func with(t *testing.T, pairs ...string) *simfs.FS {
	t.Helper()
	f := simfs.New()
	for p := range slices.Chunk(pairs, 2) {
		wantErr(t, "Write of "+p[0], f.Write(p[0], []byte(p[1])), api.OK)
	}
	return f
}

// files returns all paths and contents by turns; the system may be down, and what is counted is not f's.
func files(f *simfs.FS) []string {
	c := f.Clone()
	if c.Down() {
		c.Restart()
	}
	c.SetFault(0, api.FaultNone, 0)
	var pairs []string
	for path := range c.Paths() {
		b, _ := c.Read(path)
		pairs = append(pairs, path, string(b))
	}
	return pairs
}

func wantFiles(t *testing.T, f *simfs.FS, pairs ...string) {
	t.Helper()
	if got := files(f); !slices.Equal(got, pairs) {
		t.Errorf("the files are %q, not %q", got, pairs)
	}
}

// wantCall makes a call, and holds its error and how many calls of f it makes against what they should be.
func wantCall(t *testing.T, what string, f *simfs.FS, call func() api.Errno, want api.Errno, calls int64) {
	t.Helper()
	before := f.Calls()
	wantErr(t, what, call(), want)
	if made := f.Calls() - before; made != calls {
		t.Errorf("%s makes %d calls, not %d", what, made, calls)
	}
}

func wantWrite(t *testing.T, f *simfs.FS, path string, want api.Errno, calls int64, l ...api.HistLine) {
	t.Helper()
	wantCall(t, "Write of "+shown(l), f, func() api.Errno { return Write(f, path, true, l...) }, want, calls)
}

func wantAppend(t *testing.T, f *simfs.FS, path string, want api.Errno, calls int64, l ...api.HistLine) {
	t.Helper()
	wantCall(t, "Append of "+shown(l), f, func() api.Errno { return Append(f, path, true, l...) }, want, calls)
}

func wantTruncate(t *testing.T, f *simfs.FS, path string, n int, want api.Errno, calls int64) {
	t.Helper()
	wantCall(t, "Truncate", f, func() api.Errno { return Truncate(f, path, n) }, want, calls)
}

func wantRead(t *testing.T, f *simfs.FS, path, want string, wanted api.Errno) {
	t.Helper()
	l, err := Read(f, path)
	if shown(l) != want || err != wanted || err != api.OK && l != nil {
		t.Errorf("Read of %s: %q, %d, not %q, %d", path, shown(l), err, want, wanted)
	}
}

var (
	ls = api.HistLine{Text: "ls", Time: 100}
	cd = api.HistLine{Text: "cd /"}
	x  = api.HistLine{Text: "x"}
)

// faultErrors are what the kinds of a fault let a call return.
var faultErrors = []api.Errno{api.OK, api.ErrIO, api.ErrShort, api.ErrDown}

// TestFileExamples: the examples of the chapter that need files, in their order.
func TestFileExamples(t *testing.T) {
	f := simfs.New()
	wantWrite(t, f, "/h", api.OK, 2, ls, cd)
	wantFiles(t, f, "/h", "#100\nls\ncd /\n")
	wantRead(t, f, "/h", "ls@100|cd /@0", api.OK)
	wantAppend(t, f, "/h", api.OK, 2, x)
	wantTruncate(t, f, "/h", 2, api.OK, 3)
	wantRead(t, f, "/h", "cd /@0|x@0", api.OK)
	wantFiles(t, f, "/h", "cd /\nx\n")

	for k := 1; k <= 2; k++ {
		for keep := range 8 {
			f := simfs.New()
			wantWrite(t, f, "/h", api.OK, 2, api.HistLine{Text: "old"})
			f.SetFault(k, api.FaultCrash, keep)
			wantWrite(t, f, "/h", api.ErrDown, int64(k), api.HistLine{Text: "new"})
			wantErr(t, "Restart", f.Restart(), api.OK)
			wantRead(t, f, "/h", "old@0", api.OK)
			wantWrite(t, f, "/h", api.OK, 2, api.HistLine{Text: "new"})
			wantFiles(t, f, "/h", "new\n")
		}
	}
}

// TestRead: P11.2 (Read), the lines, and each error of simfs.
func TestRead(t *testing.T) {
	f := with(t, "/d/h", "#5\na\n\n#6\n\nb\r\n#7", "/e", "")
	wantRead(t, f, "/d/h", "a@5|b\r@0", api.OK)
	wantRead(t, f, "/e", "", api.OK)
	wantRead(t, f, "/d", "", api.ErrDir)
	wantRead(t, f, "/n", "", api.ErrNone)
	wantRead(t, f, "/d/h.tmp", "", api.ErrNone)
	wantRead(t, f, "/", "", api.ErrPath)
	wantRead(t, f, "", "", api.ErrPath)
	for kind := api.FaultError; kind <= api.FaultCrash; kind++ {
		f.SetFault(1, kind, 0)
		wantRead(t, f, "/d/h", "", faultErrors[kind])
	}
	wantRead(t, f, "/d/h", "", api.ErrDown)
	f.Restart()
	wantFiles(t, f, "/d/h", "#5\na\n\n#6\n\nb\r\n#7", "/e", "")
}

// TestWrite: P11.2 (Write), what a file then contains, with and without times, and that nothing else is left.
func TestWrite(t *testing.T) {
	f := with(t, "/d/h", "old\n", "/d/h.tmp", "a longer text that an earlier crash has left\n", "/k", "kept\n")
	wantWrite(t, f, "/d/h", api.OK, 2, ls, cd)
	wantFiles(t, f, "/d/h", "#100\nls\ncd /\n", "/k", "kept\n")
	wantErr(t, "Write without times", Write(f, "/d/h", false, ls, cd), api.OK)
	wantFiles(t, f, "/d/h", "ls\ncd /\n", "/k", "kept\n")
	wantWrite(t, f, "/d/h", api.OK, 2)
	wantFiles(t, f, "/d/h", "", "/k", "kept\n")
	wantWrite(t, f, "/n/m", api.OK, 2, x)
	wantFiles(t, f, "/d/h", "", "/k", "kept\n", "/n/m", "x\n")
}

// TestWriteErrors: P11.2 (Write), the errors of Format come first and touch no file; those of simfs, and what is left then.
func TestWriteErrors(t *testing.T) {
	f := with(t, "/d/h", "old\n", "/t.tmp/q", "q")
	kept := files(f)
	for _, path := range []string{"/d/h", "/d", "/", ""} {
		wantWrite(t, f, path, api.ErrEntry, 0, api.HistLine{Text: "#1"})
		wantWrite(t, f, path, api.ErrArg, 0, x, api.HistLine{Text: "a", Time: -1})
	}
	// A path that is none for simfs: that of the other file may be none as well, or be one.
	for path, calls := range map[string]int64{"": 0, "h": 0, "/d//": 0, "/d//h": 0, "/d/../h": 0, "/": 2, "/d/": 2, "/..": 2, "/d/.": 2} {
		wantWrite(t, f, path, api.ErrPath, calls, x)
		wantFiles(t, f, kept...)
	}
	wantWrite(t, f, "/d", api.ErrDir, 3, x)     // /d.tmp can be written, but not renamed
	wantWrite(t, f, "/d/h/i", api.ErrDir, 2, x) // /d/h is a file
	wantWrite(t, f, "/t", api.ErrDir, 2, x)     // /t.tmp is a directory
	wantFiles(t, f, kept...)
	wantWrite(t, f, "/d/h", api.ErrLong, 2, api.HistLine{Text: strings.Repeat("x", api.MaxFile)})
	wantFiles(t, f, kept...)
	wantWrite(t, f, "/d/h", api.OK, 2, api.HistLine{Text: strings.Repeat("x", api.MaxFile-1)})

	f.SetFault(1, api.FaultCrash, 0)
	f.Read("/d/h")
	wantWrite(t, f, "/d/h", api.ErrDown, 0, x)
	wantWrite(t, f, "/d/h", api.ErrEntry, 0, api.HistLine{})
}

// TestLeftByOther: P11.2 (Write), an error that no fault causes removes what an earlier crash has left.
func TestLeftByOther(t *testing.T) {
	f := with(t, "/h", "old\n", "/h.tmp", "left")
	wantWrite(t, f, "/h", api.ErrLong, 2, api.HistLine{Text: strings.Repeat("x", api.MaxFile)})
	wantFiles(t, f, "/h", "old\n")

	// The error of Remove is ignored, also one that a fault causes; after a crash there is nothing to be called.
	for kind := api.FaultError; kind <= api.FaultCrash; kind++ {
		f := with(t, "/d/h", "old\n")
		f.SetFault(3, kind, 0)
		wantWrite(t, f, "/d", api.ErrDir, 3, x)
		wantFiles(t, f, "/d.tmp", "x\n", "/d/h", "old\n")
		if f.Down() != (kind == api.FaultCrash) {
			t.Error("down:", f.Down())
		}
	}
}

// TestLongPath: the other file's path is longer than the path, and may be too long for simfs.
func TestLongPath(t *testing.T) {
	for n := api.MaxPath - 6; n <= api.MaxPath+1; n++ {
		path := "/" + strings.Repeat("p", n-1)
		written, appended := api.OK, api.OK
		if n > api.MaxPath-4 {
			written = api.ErrPath
		}
		if n > api.MaxPath {
			appended = api.ErrPath
		}
		f := simfs.New()
		wantErr(t, "Append", Append(f, path, true, ls, cd), appended)
		wantErr(t, "Write", Write(f, path, true, x, cd), written)
		if appended == api.OK {
			wantErr(t, "Truncate", Truncate(f, path, 1), written)
		}
	}
}

// TestFullSystem: with the most files there can be, no other file can be written first.
func TestFullSystem(t *testing.T) {
	f := simfs.New()
	for i := range api.MaxFiles - 1 {
		f.Write("/f"+strings.Repeat("i", i%900)+string(rune('a'+i/900)), nil)
	}
	wantErr(t, "Append to a new file", Append(f, "/h", true, ls), api.OK)
	wantWrite(t, f, "/h", api.ErrLong, 2, x)
	wantRead(t, f, "/h", "ls@100", api.OK)
	wantAppend(t, f, "/h", api.OK, 2, x)
	wantAppend(t, f, "/i", api.ErrLong, 2, x)
	wantTruncate(t, f, "/h", 1, api.ErrLong, 3)
	wantRead(t, f, "/h", "ls@100|x@0", api.OK)
}

// TestAppend: P11.2 (Append), what stands ahead of the new lines.
func TestAppend(t *testing.T) {
	for old, want := range map[string]string{
		"":              "#100\nls\ncd /\n",
		"\n":            "\n#100\nls\ncd /\n",
		"a\n":           "a\n#100\nls\ncd /\n",
		"a\n\n":         "a\n\n#100\nls\ncd /\n",
		"a":             "a\n\n#100\nls\ncd /\n",
		"a\r":           "a\r\n\n#100\nls\ncd /\n",
		"a\n#":          "a\n#\n\n#100\nls\ncd /\n",
		"a\n#5":         "a\n#5\n\n#100\nls\ncd /\n",
		"a\n#5\n":       "a\n#5\n#100\nls\ncd /\n",
		"a\n#5\nb":      "a\n#5\nb\n\n#100\nls\ncd /\n",
		"\n\n#12345678": "\n\n#12345678\n\n#100\nls\ncd /\n",
	} {
		f := with(t, "/h", old)
		wantAppend(t, f, "/h", api.OK, 2, ls, cd)
		wantFiles(t, f, "/h", want)
	}
	f := simfs.New()
	wantAppend(t, f, "/d/h", api.OK, 2, ls, cd)
	wantFiles(t, f, "/d/h", "#100\nls\ncd /\n")
	wantErr(t, "Append without times", Append(f, "/d/h", false, ls, cd), api.OK)
	wantFiles(t, f, "/d/h", "#100\nls\ncd /\nls\ncd /\n")
}

// TestAppendCut: P11.2 (Append), a truncated line stands alone, and a truncated stamp is ignored.
func TestAppendCut(t *testing.T) {
	for old, want := range map[string]string{"a\nb": "a@0|b@0|x@0|ls@100", "a\n#5": "a@0|x@0|ls@100", "#5": "x@0|ls@100", "#5\na": "a@5|x@0|ls@100"} {
		f := with(t, "/h", old)
		wantAppend(t, f, "/h", api.OK, 2, x, ls)
		wantRead(t, f, "/h", want, api.OK)
	}
}

// TestAppendNothing: P11.2 (Append), without lines the file is read, and nothing is written.
func TestAppendNothing(t *testing.T) {
	f := with(t, "/h", "a", "/d/i", "")
	kept := files(f)
	wantAppend(t, f, "/h", api.OK, 1)
	wantAppend(t, f, "/d/i", api.OK, 1)
	wantAppend(t, f, "/n", api.OK, 1)
	wantAppend(t, f, "/h/below", api.OK, 1)
	wantAppend(t, f, "/d", api.ErrDir, 1)
	wantAppend(t, f, "/d/", api.ErrPath, 0)
	wantFiles(t, f, kept...)
	for kind := api.FaultError; kind <= api.FaultCrash; kind++ {
		f.SetFault(1, kind, 9)
		wantAppend(t, f, "/h", faultErrors[kind], 1)
	}
	wantAppend(t, f, "/h", api.ErrDown, 0)
	wantFiles(t, f, kept...)
}

// TestAppendErrors: P11.2 (Append), the errors of Format first, then those of Read but ErrNone, then those of simfs's Append.
func TestAppendErrors(t *testing.T) {
	f := with(t, "/d/h", "old\n")
	for _, path := range []string{"/d/h", "/d", "/n", "/", ""} {
		wantAppend(t, f, path, api.ErrEntry, 0, x, api.HistLine{Text: "a\nb"})
		wantAppend(t, f, path, api.ErrArg, 0, api.HistLine{Text: "a", Time: api.MaxTime + 1})
	}
	wantAppend(t, f, "/d", api.ErrDir, 1, x)
	wantAppend(t, f, "/d/h/i", api.ErrDir, 2, x)
	wantAppend(t, f, "/d/", api.ErrPath, 0, x)
	wantAppend(t, f, "", api.ErrPath, 0, x)
	wantFiles(t, f, "/d/h", "old\n")

	// Also what ends a line that was cut off counts.
	f = with(t, "/h", strings.Repeat("o", api.MaxFile-3))
	wantAppend(t, f, "/h", api.ErrLong, 2, x)
	f = with(t, "/h", strings.Repeat("o", api.MaxFile-4))
	wantAppend(t, f, "/h", api.OK, 2, x)
	wantAppend(t, f, "/h", api.ErrLong, 2, x)
	wantRead(t, f, "/h", strings.Repeat("o", api.MaxFile-4)+"@0|x@0", api.OK)

	f.SetFault(1, api.FaultCrash, 0)
	f.Read("/h")
	wantAppend(t, f, "/h", api.ErrDown, 0, x)
	wantAppend(t, f, "/h", api.ErrEntry, 0, api.HistLine{})
}

// TestTruncate: P11.3 (Truncate), what is left for each number of lines; a file that has no more is not touched.
func TestTruncate(t *testing.T) {
	const file = "#1\na\r\n\n#2\n\nb\n#3\nc\n#4"
	for n, want := range []string{"", "#3\nc\n#4", "\n#2\n\nb\n#3\nc\n#4", file, file} {
		f := with(t, "/h", file, "/h.tmp", "left", "/k", "kept")
		if n < 3 {
			wantTruncate(t, f, "/h", n, api.OK, 3)
			wantFiles(t, f, "/h", want, "/k", "kept")
		} else {
			wantTruncate(t, f, "/h", n, api.OK, 1)
			wantFiles(t, f, "/h", file, "/h.tmp", "left", "/k", "kept")
		}
		before := files(f)
		wantTruncate(t, f, "/h", n, api.OK, 1)
		wantFiles(t, f, before...)
	}
	f := with(t, "/h", "#1\n\n#2\n", "/e", "")
	wantTruncate(t, f, "/h", 0, api.OK, 1)
	wantTruncate(t, f, "/e", 0, api.OK, 1)
	wantTruncate(t, f, "/e", 1<<62, api.OK, 1)
	wantFiles(t, f, "/e", "", "/h", "#1\n\n#2\n")
}

// TestTruncateErrors: P11.3 (Truncate), ErrArg first, then those of Read, then those of Write.
func TestTruncateErrors(t *testing.T) {
	f := with(t, "/d/h", "a\nb\n", "/t", "a\nb\n", "/t.tmp/q", "q")
	kept := files(f)
	for _, path := range []string{"/d/h", "/d", "/n", "/d/", ""} {
		wantTruncate(t, f, path, -1, api.ErrArg, 0)
		wantTruncate(t, f, path, -1<<63, api.ErrArg, 0)
	}
	wantTruncate(t, f, "/d", 1, api.ErrDir, 1)
	wantTruncate(t, f, "/n", 1, api.ErrNone, 1)
	wantTruncate(t, f, "/n", 0, api.ErrNone, 1)
	wantTruncate(t, f, "/d/", 1, api.ErrPath, 0)
	wantTruncate(t, f, "/t", 1, api.ErrDir, 3)
	wantFiles(t, f, kept...)
	f.SetFault(1, api.FaultCrash, 0)
	wantTruncate(t, f, "/d/h", 1, api.ErrDown, 1)
	wantTruncate(t, f, "/d/h", 1, api.ErrDown, 0)
	wantTruncate(t, f, "/d/h", -1, api.ErrArg, 0)
	wantFiles(t, f, kept...)
}

// TestUnmade: R5 of simfs, for nil and a zero struct; what the chapter names ahead of a call of it comes first.
func TestUnmade(t *testing.T) {
	for _, f := range []*simfs.FS{nil, new(simfs.FS)} {
		for _, path := range []string{"/h", "", "/"} {
			wantRead(t, f, path, "", api.ErrMade)
			wantErr(t, "Write", Write(f, path, true, x), api.ErrMade)
			wantErr(t, "Write of nothing", Write(f, path, true), api.ErrMade)
			wantErr(t, "Write of a wrong line", Write(f, path, true, api.HistLine{}), api.ErrEntry)
			wantErr(t, "Append", Append(f, path, true, x), api.ErrMade)
			wantErr(t, "Append of nothing", Append(f, path, true), api.ErrMade)
			wantErr(t, "Append of a wrong line", Append(f, path, true, api.HistLine{Text: "x", Time: -1}), api.ErrArg)
			wantErr(t, "Truncate", Truncate(f, path, 0), api.ErrMade)
			wantErr(t, "Truncate to -1", Truncate(f, path, -1), api.ErrArg)
		}
	}
}

// TestFileOwnership: R3, the lines that are handed in are not changed, and those that are handed out are the caller's.
func TestFileOwnership(t *testing.T) {
	f := simfs.New()
	l := []api.HistLine{ls, cd, x}[:2]
	wantErr(t, "Write", Write(f, "/h", true, l...), api.OK)
	wantErr(t, "Append", Append(f, "/h", true, l...), api.OK)
	if !slices.Equal(l[:3], []api.HistLine{ls, cd, x}) {
		t.Error("the lines are now", shown(l[:3]))
	}
	clear(l)
	first, _ := Read(f, "/h")
	clear(first)
	wantRead(t, f, "/h", "ls@100|cd /@0|ls@100|cd /@0", api.OK)
}
