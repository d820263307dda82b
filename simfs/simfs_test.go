package simfs

import (
	"bytes"
	"math"
	"slices"
	"strconv"
	"strings"
	"testing"

	"lanyard/api"
)

// with makes a file system of paths and contents, in turn.
func with(t *testing.T, pairs ...string) *FS {
	t.Helper()
	f := New()
	for i := 0; i < len(pairs); i += 2 {
		wantErr(t, "Write of "+pairs[i], f.Write(pairs[i], []byte(pairs[i+1])), api.OK)
	}
	return f
}

func wantErr(t *testing.T, what string, got, want api.Errno) {
	t.Helper()
	if got != want {
		t.Errorf("%s returns %d, not %d", what, got, want)
	}
}

func wantRead(t *testing.T, f *FS, path, want string) {
	t.Helper()
	b, err := f.Read(path)
	if err != api.OK || string(b) != want {
		t.Errorf("Read of %q returns %q, %d, not %q", path, b, err, want)
	}
}

func wantReadErr(t *testing.T, f *FS, path string, want api.Errno) {
	t.Helper()
	if b, err := f.Read(path); err != want || b != nil {
		t.Errorf("Read of %q returns %q, %d, not %d", path, b, err, want)
	}
}

func wantList(t *testing.T, f *FS, dir string, want ...string) {
	t.Helper()
	l, err := f.List(dir)
	if err != api.OK || !slices.Equal(l, want) {
		t.Errorf("List of %q returns %q, %d, not %q", dir, l, err, want)
	}
}

func wantListErr(t *testing.T, f *FS, dir string, want api.Errno) {
	t.Helper()
	if l, err := f.List(dir); err != want || l != nil {
		t.Errorf("List of %q returns %q, %d, not %d", dir, l, err, want)
	}
}

func wantIs(t *testing.T, f *FS, path string, file, dir bool) {
	t.Helper()
	if isFile, isDir := f.Is(path); isFile != file || isDir != dir {
		t.Errorf("Is of %q returns %t, %t", path, isFile, isDir)
	}
}

// wantFiles holds all that f contains against pairs of paths and contents, in order; it counts no call of f.
func wantFiles(t *testing.T, f *FS, pairs ...string) {
	t.Helper()
	c := f.Clone()
	if c.Down() {
		c.Restart()
	}
	c.SetFault(0, api.FaultNone, 0)
	var got []string
	for path := range c.Paths() {
		b, err := c.Read(path)
		wantErr(t, "Read of "+path, err, api.OK)
		got = append(got, path, string(b))
	}
	if !slices.Equal(got, pairs) {
		t.Errorf("the files are %q, not %q", got, pairs)
	}
}

var goodPaths = []string{
	"/a", "/a/b", "/a/b/c", "/...", "/.a", "/a.", "/..a", "/a/...", "/ ", "/a b/c", "/\x00", "/\xff\xfe/\n", "/~", "/\\", "/é/中",
	"/" + strings.Repeat("x", api.MaxPath-1), strings.Repeat("/x", api.MaxPath/2),
}

var badPaths = []string{
	"", "/", "//", "a", "a/b", "/a/", "//a", "/a//b", "/.", "/..", "/./a", "/../a", "/a/.", "/a/..", "/a/./b", "/a/../b", ".", "..", "./a", " /a", "\\a",
	"/" + strings.Repeat("x", api.MaxPath), strings.Repeat("/x", api.MaxPath/2) + "/", strings.Repeat("/x", api.MaxPath/2) + "/x",
}

// TestGood: the definition of a path.
func TestGood(t *testing.T) {
	for _, path := range goodPaths {
		if !Good(path) {
			t.Errorf("%q is not good", path)
		}
	}
	for _, path := range badPaths {
		if Good(path) {
			t.Errorf("%q is good", path)
		}
	}
}

// TestPathsOfCalls: P2.2 (common checks), for valid and for invalid paths, which are not counted and change nothing.
func TestPathsOfCalls(t *testing.T) {
	for _, path := range goodPaths {
		f := with(t, path, "x")
		wantIs(t, f, path, true, false)
		wantRead(t, f, path, "x")
		wantErr(t, "Append", f.Append(path, []byte("y")), api.OK)
		wantErr(t, "Rename", f.Rename(path, "/other"), api.OK)
		wantErr(t, "Rename", f.Rename("/other", path), api.OK)
		wantFiles(t, f, path, "xy")
		wantErr(t, "Remove", f.Remove(path), api.OK)
		wantFiles(t, f)
	}
	for _, path := range badPaths {
		f := with(t, "/a/b", "x")
		wantReadErr(t, f, path, api.ErrPath)
		wantErr(t, "Write of "+path, f.Write(path, nil), api.ErrPath)
		wantErr(t, "Append of "+path, f.Append(path, nil), api.ErrPath)
		wantErr(t, "Rename from "+path, f.Rename(path, "/z"), api.ErrPath)
		wantErr(t, "Rename to "+path, f.Rename("/a/b", path), api.ErrPath)
		wantErr(t, "Rename of nothing to "+path, f.Rename("/none", path), api.ErrPath)
		wantErr(t, "Remove of "+path, f.Remove(path), api.ErrPath)
		if path != "/" {
			wantListErr(t, f, path, api.ErrPath)
			wantIs(t, f, path, false, false)
		}
		if f.Calls() != 1 {
			t.Errorf("%d calls are counted with the path %q", f.Calls()-1, path)
		}
		wantFiles(t, f, "/a/b", "x")
	}
}

// TestNew: P2.1.
func TestNew(t *testing.T) {
	f := New()
	wantFiles(t, f)
	if f.Down() || f.Calls() != 0 {
		t.Error(f.Down(), f.Calls())
	}
	wantIs(t, f, "/", false, true)
	wantIs(t, f, "/a", false, false)
	wantErr(t, "Restart", f.Restart(), api.ErrArg)
	wantList(t, f, "/")
	for i := range 50 {
		wantErr(t, "Write", f.Write("/f"+strconv.Itoa(i), nil), api.OK)
	}
	wantErr(t, "another one", New().Write("/f", nil), api.OK)
	wantIs(t, f, "/f", false, false)
}

// TestRead: P2.2 (Read).
func TestRead(t *testing.T) {
	f := with(t, "/a/b/c", "xy", "/e", "", "/ab", "z")
	wantRead(t, f, "/a/b/c", "xy")
	wantRead(t, f, "/e", "")
	for _, path := range []string{"/a", "/a/b"} {
		wantReadErr(t, f, path, api.ErrDir)
	}
	for _, path := range []string{"/x", "/a/x", "/a/b/x", "/a/b/c/d", "/e/f", "/a/b/cc", "/abc", "/A/b/c"} {
		wantReadErr(t, f, path, api.ErrNone)
	}
}

// TestWrite: P2.2 (Write).
func TestWrite(t *testing.T) {
	f := with(t, "/a/b", "long text", "/c", "z")
	wantErr(t, "Write of /a/b", f.Write("/a/b", []byte{0, 0xff}), api.OK)
	wantRead(t, f, "/a/b", "\x00\xff")
	wantErr(t, "Write of /a/b", f.Write("/a/b", nil), api.OK)
	wantRead(t, f, "/a/b", "")
	wantErr(t, "Write of a directory", f.Write("/a", []byte("x")), api.ErrDir)
	wantErr(t, "Write below a file", f.Write("/a/b/c", []byte("x")), api.ErrDir)
	wantErr(t, "Write far below a file", f.Write("/c/d/e/f", []byte("x")), api.ErrDir)
	// Names that begin alike are no directories of each other.
	wantErr(t, "Write of /ab", f.Write("/ab", []byte("1")), api.OK)
	wantErr(t, "Write of /a/bc/d", f.Write("/a/bc/d", []byte("2")), api.OK)
	wantErr(t, "Write of /cc/d", f.Write("/cc/d", []byte("3")), api.OK)
	wantFiles(t, f, "/a/b", "", "/a/bc/d", "2", "/ab", "1", "/c", "z", "/cc/d", "3")
}

// TestAppend: P2.2 (Append).
func TestAppend(t *testing.T) {
	f := with(t, "/a/b", "xy")
	wantErr(t, "Append", f.Append("/a/b", []byte("zw")), api.OK)
	wantErr(t, "Append of nothing", f.Append("/a/b", nil), api.OK)
	wantErr(t, "Append to no file", f.Append("/n/m", []byte("new")), api.OK)
	wantErr(t, "Append of nothing to no file", f.Append("/e", nil), api.OK)
	wantErr(t, "Append to a directory", f.Append("/a", []byte("x")), api.ErrDir)
	wantErr(t, "Append below a file", f.Append("/e/f", []byte("x")), api.ErrDir)
	wantFiles(t, f, "/a/b", "xyzw", "/e", "", "/n/m", "new")
}

// TestMaxFile: P2.2, ErrLong for the size of a file; ErrDir comes first.
func TestMaxFile(t *testing.T) {
	most := bytes.Repeat([]byte("m"), api.MaxFile)
	more := append(slices.Clone(most), 'n')
	f := with(t, "/d/x", "x")
	wantErr(t, "Write of more", f.Write("/f", more), api.ErrLong)
	wantErr(t, "Append of more", f.Append("/f", more), api.ErrLong)
	wantErr(t, "Write of more to a directory", f.Write("/d", more), api.ErrDir)
	wantErr(t, "Append of more below a file", f.Append("/d/x/y", more), api.ErrDir)
	wantIs(t, f, "/f", false, false)
	wantErr(t, "Write of the most", f.Write("/f", most), api.OK)
	wantErr(t, "Append of nothing", f.Append("/f", nil), api.OK)
	wantErr(t, "Append of a byte", f.Append("/f", []byte("n")), api.ErrLong)
	wantErr(t, "Write of more", f.Write("/f", more), api.ErrLong)
	wantRead(t, f, "/f", string(most))
	wantErr(t, "Append of the most but one", f.Append("/d/x", most[1:]), api.OK)
	wantErr(t, "Write of the most over the most", f.Write("/f", most), api.OK)
	wantErr(t, "Append of the most", f.Append("/g", most), api.OK)
}

// TestMaxFiles: P2.2, ErrLong for the number of files; ErrDir comes first, and what there is can be written.
func TestMaxFiles(t *testing.T) {
	f := New()
	name := func(i int) string { return "/d/f" + strconv.Itoa(i) }
	for i := range api.MaxFiles {
		if err := f.Write(name(i), []byte("x")); err != api.OK {
			t.Fatal(i, err)
		}
	}
	wantErr(t, "Write of one more", f.Write("/new", nil), api.ErrLong)
	wantErr(t, "Append of one more", f.Append("/new", nil), api.ErrLong)
	wantErr(t, "Write of the directory", f.Write("/d", nil), api.ErrDir)
	wantErr(t, "Append below a file", f.Append(name(7)+"/x", nil), api.ErrDir)
	wantErr(t, "Write", f.Write(name(0), []byte("y")), api.OK)
	wantErr(t, "Append", f.Append(name(0), []byte("z")), api.OK)
	wantRead(t, f, name(0), "yz")
	wantErr(t, "Rename", f.Rename(name(1), "/new"), api.OK)
	if l, err := f.List("/d"); len(l) != api.MaxFiles-1 || err != api.OK {
		t.Error(len(l), err)
	}
	wantErr(t, "Remove", f.Remove("/new"), api.OK)
	wantErr(t, "Write of the last one", f.Write("/last", nil), api.OK)
	wantErr(t, "Write of one more", f.Write("/new", nil), api.ErrLong)
}

// TestRename: P2.2 (Rename).
func TestRename(t *testing.T) {
	f := with(t, "/a/b", "ab", "/a/c", "ac", "/d", "d")
	wantErr(t, "Rename of a directory", f.Rename("/a", "/z"), api.ErrDir)
	wantErr(t, "Rename of nothing", f.Rename("/z", "/y"), api.ErrNone)
	wantErr(t, "Rename of nothing to a directory", f.Rename("/z", "/a"), api.ErrNone)
	wantErr(t, "Rename of a directory to itself", f.Rename("/a", "/a"), api.ErrDir)
	wantErr(t, "Rename of nothing to itself", f.Rename("/z", "/z"), api.ErrNone)
	wantErr(t, "Rename to a directory", f.Rename("/d", "/a"), api.ErrDir)
	wantErr(t, "Rename to the directory, with another file in it", f.Rename("/a/b", "/a"), api.ErrDir)
	wantErr(t, "Rename below a file", f.Rename("/a/b", "/d/e"), api.ErrDir)
	wantErr(t, "Rename to itself", f.Rename("/d", "/d"), api.OK)
	wantFiles(t, f, "/a/b", "ab", "/a/c", "ac", "/d", "d")
	wantErr(t, "Rename over a file", f.Rename("/a/c", "/d"), api.OK)
	wantFiles(t, f, "/a/b", "ab", "/d", "ac")
	wantErr(t, "Rename to the directory", f.Rename("/a/b", "/a"), api.OK)
	wantFiles(t, f, "/a", "ab", "/d", "ac")
	wantErr(t, "Rename below itself", f.Rename("/a", "/a/x/y"), api.OK)
	wantFiles(t, f, "/a/x/y", "ab", "/d", "ac")
	wantErr(t, "Rename of /a/x/y", f.Rename("/a/x/y", "/c"), api.OK)
	wantIs(t, f, "/a", false, false)
	wantIs(t, f, "/a/x", false, false)
	wantFiles(t, f, "/c", "ab", "/d", "ac")
}

// TestRemove: P2.2 (Remove); a directory goes with its last file.
func TestRemove(t *testing.T) {
	f := with(t, "/a/b/c", "1", "/a/d", "2")
	wantErr(t, "Remove of a directory", f.Remove("/a"), api.ErrDir)
	wantErr(t, "Remove of nothing", f.Remove("/x"), api.ErrNone)
	wantErr(t, "Remove below a file", f.Remove("/a/d/e"), api.ErrNone)
	wantErr(t, "Remove", f.Remove("/a/b/c"), api.OK)
	wantErr(t, "Remove again", f.Remove("/a/b/c"), api.ErrNone)
	wantErr(t, "Remove of a directory that is gone", f.Remove("/a/b"), api.ErrNone)
	wantIs(t, f, "/a/b", false, false)
	wantIs(t, f, "/a", false, true)
	wantFiles(t, f, "/a/d", "2")
	wantErr(t, "Remove", f.Remove("/a/d"), api.OK)
	wantIs(t, f, "/a", false, false)
	wantErr(t, "Write of what was a directory", f.Write("/a", nil), api.OK)
}

// TestList: P2.2 (List) and P2.5, the order of the names with their / , each of them once.
func TestList(t *testing.T) {
	f := with(t, "/b/x", "", "/b/y/z", "", "/b/y/w", "", "/b0", "", "/b.c/d", "", "/b!", "", "/B", "", "/\xff", "", "/b/x!", "")
	wantList(t, f, "/", "B", "b!", "b.c/", "b/", "b0", "\xff")
	wantList(t, f, "/b", "x", "x!", "y/")
	wantList(t, f, "/b/y", "w", "z")
	wantList(t, f, "/b.c", "d")
	wantListErr(t, f, "/b0", api.ErrDir)
	wantListErr(t, f, "/b/x", api.ErrDir)
	for _, dir := range []string{"/x", "/b/x/y", "/b/z", "/b1", "/c"} {
		wantListErr(t, f, dir, api.ErrNone)
	}
	wantListErr(t, f, "/b/", api.ErrPath)
	wantListErr(t, f, "", api.ErrPath)
}

// TestIs: P2.1 (Is).
func TestIs(t *testing.T) {
	f := with(t, "/a/b/c", "x")
	wantIs(t, f, "/", false, true)
	wantIs(t, f, "/a", false, true)
	wantIs(t, f, "/a/b", false, true)
	wantIs(t, f, "/a/b/c", true, false)
	for _, path := range []string{"", "a", "/a/", "/a/b/c/", "//", "/b", "/a/c", "/a/b/c/d", "/a/b/cc", "/a/."} {
		wantIs(t, f, path, false, false)
	}
	if f.Calls() != 1 {
		t.Error("Is is counted")
	}
}

// TestPaths: P2.1 (Paths) and R3: order, and what is yielded after later calls, after a stop, and a second time.
func TestPaths(t *testing.T) {
	f := with(t, "/b", "", "/a/b", "", "/a!", "", "/a0", "", "/Z", "", "/\xff", "")
	want := []string{"/Z", "/a!", "/a/b", "/a0", "/b", "/\xff"}
	paths := f.Paths()
	f.Write("/aa", nil)
	f.Remove("/b")
	f.Rename("/Z", "/z")
	for range paths {
		break
	}
	for n := range len(want) + 1 {
		var got []string
		for path := range paths {
			if got = append(got, path); len(got) == n {
				break
			}
		}
		if n == 0 {
			n = len(want)
		}
		if !slices.Equal(got, want[:n]) {
			t.Errorf("%q is yielded, not %q", got, want[:n])
		}
	}
	if got := slices.Collect(f.Paths()); !slices.Equal(got, []string{"/a!", "/a/b", "/a0", "/aa", "/z", "/\xff"}) {
		t.Errorf("%q", got)
	}
}

// TestCalls: P2.1 (Calls): calls that pass the common checks are counted, with and without an error; others are not.
func TestCalls(t *testing.T) {
	f := New()
	for i, call := range []func(){
		func() { f.Read("/a") },
		func() { f.Write("/a", nil) },
		func() { f.Write("/a/b", nil) },
		func() { f.Append("/a", nil) },
		func() { f.Append("/a", make([]byte, api.MaxFile+1)) },
		func() { f.Rename("/b", "/c") },
		func() { f.Rename("/a", "/a") },
		func() { f.List("/") },
		func() { f.List("/b") },
		func() { f.Remove("/b") },
		func() { f.Remove("/a") },
		func() { f.SetFault(1, api.FaultError, 0); f.Write("/a", nil) },
		func() { f.SetFault(1, api.FaultCrash, 0); f.Write("/a", nil) },
	} {
		call()
		if f.Calls() != int64(i+1) {
			t.Fatalf("%d calls, not %d", f.Calls(), i+1)
		}
	}
	counted := f.Calls()
	f.Read("/a")
	f.Write("/a", nil)
	f.List("/")
	f.Restart()
	f.Is("/a")
	f.Paths()
	f.Down()
	f.Clone()
	f.SetFault(0, 0, 0)
	Good("/a")
	if f.Calls() != counted {
		t.Error(f.Calls()-counted, "calls too many")
	}
}

// TestClone: P2.4, the files, the count, the fault and whether the system is down, and that neither sees the other.
func TestClone(t *testing.T) {
	f := with(t, "/a/b", "xy", "/c", "z")
	f.Append("/c", bytes.Repeat([]byte("z"), 9))
	f.SetFault(2, api.FaultShort, 1)
	c := f.Clone()
	wantErr(t, "Append", f.Append("/a/b", []byte("1")), api.OK)
	wantErr(t, "Append to the clone", c.Append("/a/b", []byte("2")), api.OK)
	wantErr(t, "the second Append to the clone", c.Append("/a/b", []byte("34")), api.ErrShort)
	wantErr(t, "the second Append", f.Append("/c", []byte("56")), api.ErrShort)
	f.Remove("/a/b")
	c.Write("/d", nil)
	c.Write("/d", nil)
	if f.Calls() != 6 || c.Calls() != 7 {
		t.Error(f.Calls(), c.Calls())
	}
	wantFiles(t, f, "/c", "zzzzzzzzzz5")
	wantFiles(t, c, "/a/b", "xy23", "/c", "zzzzzzzzzz", "/d", "")

	f.SetFault(1, api.FaultCrash, 0)
	f.Read("/c")
	c = f.Clone()
	if !c.Down() || c.Calls() != 7 {
		t.Error(c.Down(), c.Calls())
	}
	wantErr(t, "Restart of the clone", c.Restart(), api.OK)
	if !f.Down() || c.Down() {
		t.Error("Restart of the clone:", f.Down(), c.Down())
	}
	wantRead(t, c, "/c", "zzzzzzzzzz5")
	wantReadErr(t, f, "/c", api.ErrDown)
}

// TestCloneAppend: P2.4, bytes that two file systems append to what they have in common do not meet.
func TestCloneAppend(t *testing.T) {
	f := New()
	for i := range 100 {
		f.Append("/a", []byte{byte(i)})
		c, d := f.Clone(), f.Clone()
		c.Append("/a", []byte("c"))
		f.Append("/a", []byte("f"))
		d.Append("/a", []byte("d"))
		for _, x := range []struct {
			fs   *FS
			last byte
		}{{c, 'c'}, {f, 'f'}, {d, 'd'}} {
			if b, _ := x.fs.Read("/a"); len(b) != 2*i+2 || b[2*i+1] != x.last {
				t.Fatalf("%d: %q, not %q at the end", i, b, x.last)
			}
		}
	}
}

// TestOwnership: R3, bytes that were handed in or out are nobody else's.
func TestOwnership(t *testing.T) {
	f := New()
	b := make([]byte, 3, 64)
	copy(b, "abc")
	f.Write("/w", b)
	f.Append("/a", b)
	f.Append("/a", b)
	clear(b[:cap(b)])
	wantFiles(t, f, "/a", "abcabc", "/w", "abc")
	for _, path := range []string{"/a", "/w"} {
		got, _ := f.Read(path)
		clear(got[:cap(got)])
		_ = append(got[:0], "zzz"...)
	}
	wantFiles(t, f, "/a", "abcabc", "/w", "abc")
	b = append(b[:0], "abcdef"...)
	f.SetFault(1, api.FaultShort, 2)
	f.Write("/w", b)
	f.Append("/w", []byte("xyz"))
	if string(b) != "abcdef" {
		t.Errorf("the argument is %q", b)
	}
	wantFiles(t, f, "/a", "abcabc", "/w", "abxyz")
	l, _ := f.List("/")
	l[0] = "q"
	wantList(t, f, "/", "a", "w")
	old, _ := f.Read("/w")
	f.Append("/w", []byte("more"))
	f.Write("/w", []byte("new"))
	if string(old) != "abxyz" {
		t.Errorf("what was read is now %q", old)
	}
}

// TestUnmade: R5, for nil and for a zero struct, whatever the arguments.
func TestUnmade(t *testing.T) {
	for _, f := range []*FS{nil, new(FS)} {
		for _, path := range []string{"/a", "", "/"} {
			wantReadErr(t, f, path, api.ErrMade)
			wantErr(t, "Write", f.Write(path, make([]byte, api.MaxFile+1)), api.ErrMade)
			wantErr(t, "Append", f.Append(path, nil), api.ErrMade)
			wantErr(t, "Rename", f.Rename(path, path), api.ErrMade)
			wantErr(t, "Remove", f.Remove(path), api.ErrMade)
			wantListErr(t, f, path, api.ErrMade)
			wantIs(t, f, path, false, false)
		}
		wantErr(t, "SetFault", f.SetFault(1, api.FaultCrash, 0), api.ErrMade)
		wantErr(t, "SetFault with wrong arguments", f.SetFault(-1, math.MaxInt, -1), api.ErrMade)
		wantErr(t, "Restart", f.Restart(), api.ErrMade)
		for path := range f.Paths() {
			t.Error("the path", path)
		}
		if f.Calls() != 0 || f.Down() || f.Clone() != nil {
			t.Error(f.Calls(), f.Down(), f.Clone())
		}
	}
}
