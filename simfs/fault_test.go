package simfs

import (
	"math"
	"testing"

	"lanyard/api"
)

// faultErrors are what the kinds of a fault let a call return.
var faultErrors = []api.Errno{api.OK, api.ErrIO, api.ErrShort, api.ErrDown}

// TestExamples: the examples at the end of the chapter and those within it.
func TestExamples(t *testing.T) {
	f := with(t, "/a/b", "xy")
	wantList(t, f, "/", "a/")
	wantList(t, f, "/a", "b")
	wantErr(t, "Write of /a", f.Write("/a", nil), api.ErrDir)
	wantErr(t, "Write of /a/b/c", f.Write("/a/b/c", nil), api.ErrDir)
	wantErr(t, "Write of a", f.Write("a", nil), api.ErrPath)
	removed := f.Clone()
	wantErr(t, "Remove of /a/b", removed.Remove("/a/b"), api.OK)
	wantIs(t, removed, "/a", false, false)

	wantErr(t, "SetFault", f.SetFault(1, api.FaultShort, 1), api.OK)
	wantErr(t, "Append of zw", f.Append("/a/b", []byte("zw")), api.ErrShort)
	wantRead(t, f, "/a/b", "xyz")
	wantErr(t, "SetFault", f.SetFault(2, api.FaultCrash, 0), api.OK)
	wantErr(t, "Rename", f.Rename("/a/b", "/c"), api.OK)
	wantIs(t, f, "/a", false, false)
	wantErr(t, "Write", f.Write("/d", []byte("q")), api.ErrDown)
	if !f.Down() {
		t.Error("the system is up")
	}
}

// TestSetFault: P2.3 (SetFault), its errors in their order, and that a call with one leaves the fault as it was.
func TestSetFault(t *testing.T) {
	f := with(t, "/a", "x")
	for _, c := range []struct{ k, kind, keep int }{
		{-1, api.FaultError, 0}, {math.MinInt, api.FaultError, 0}, {1, -1, 0}, {1, api.FaultCrash + 1, 0}, {1, math.MaxInt, 0},
		{1, api.FaultShort, -1}, {1, api.FaultError, -1}, {0, api.FaultNone, -1}, {0, -1, 0}, {-1, api.FaultNone, 0},
	} {
		wantErr(t, "SetFault", f.SetFault(1, api.FaultError, 0), api.OK)
		wantErr(t, "SetFault with wrong arguments", f.SetFault(c.k, c.kind, c.keep), api.ErrArg)
		wantReadErr(t, f, "/a", api.ErrIO)
	}
	for _, c := range []struct{ k, kind int }{{0, api.FaultCrash}, {1, api.FaultNone}, {0, api.FaultNone}} {
		f.SetFault(1, api.FaultError, 0)
		wantErr(t, "SetFault of none", f.SetFault(c.k, c.kind, 0), api.OK)
		wantRead(t, f, "/a", "x")
	}
	f.SetFault(1, api.FaultCrash, 0)
	wantErr(t, "SetFault in place of another", f.SetFault(2, api.FaultShort, 0), api.OK)
	wantRead(t, f, "/a", "x")
	wantReadErr(t, f, "/a", api.ErrShort)
	wantErr(t, "SetFault of a far call", f.SetFault(math.MaxInt, api.FaultCrash, math.MaxInt), api.OK)
	wantRead(t, f, "/a", "x")

	f.SetFault(1, api.FaultCrash, 0)
	f.Read("/a")
	wantErr(t, "SetFault while down", f.SetFault(1, api.FaultError, 0), api.ErrDown)
	wantErr(t, "SetFault of none while down", f.SetFault(0, api.FaultNone, 0), api.ErrDown)
	wantErr(t, "SetFault with wrong arguments while down", f.SetFault(-1, api.FaultError, 0), api.ErrArg)
	f.Restart()
	wantRead(t, f, "/a", "x")
}

// TestFaultCount: P2.3, the k-th counted call has the fault, and no other; calls that are not counted do not matter.
func TestFaultCount(t *testing.T) {
	for k := 1; k <= 6; k++ {
		f := with(t, "/a", "x")
		f.SetFault(k, api.FaultError, 0)
		for i := 1; i <= 8; i++ {
			f.Is("/a")
			f.Paths()
			f.Read("a")
			f.Write("/", nil)
			f.Rename("/a", "/b/")
			f.Restart()
			if _, err := f.Read("/a"); (err == api.ErrIO) != (i == k) {
				t.Errorf("SetFault of %d, call %d: %d", k, i, err)
			}
		}
	}
	// A call that returns an error counts.
	f := with(t, "/a", "x")
	f.SetFault(2, api.FaultError, 0)
	wantReadErr(t, f, "/none", api.ErrNone)
	wantReadErr(t, f, "/none", api.ErrIO)
	wantReadErr(t, f, "/none", api.ErrNone)
}

// TestFaultOfOthers: P2.3, P2.6 and P2.7, the calls that write no bytes have no effect, whatever they would have returned.
func TestFaultOfOthers(t *testing.T) {
	calls := map[string]func(*FS) api.Errno{
		"Read":                   func(f *FS) api.Errno { return readErr(f, "/a/b") },
		"Read of nothing":        func(f *FS) api.Errno { return readErr(f, "/x") },
		"Read of a directory":    func(f *FS) api.Errno { return readErr(f, "/a") },
		"Rename":                 func(f *FS) api.Errno { return f.Rename("/a/b", "/n") },
		"Rename over a file":     func(f *FS) api.Errno { return f.Rename("/a/b", "/c") },
		"Rename of nothing":      func(f *FS) api.Errno { return f.Rename("/x", "/n") },
		"Rename to a directory":  func(f *FS) api.Errno { return f.Rename("/c", "/a") },
		"Remove":                 func(f *FS) api.Errno { return f.Remove("/a/b") },
		"Remove of nothing":      func(f *FS) api.Errno { return f.Remove("/x") },
		"List":                   func(f *FS) api.Errno { return listErr(f, "/") },
		"List of a file":         func(f *FS) api.Errno { return listErr(f, "/c") },
		"List of nothing at all": func(f *FS) api.Errno { return listErr(f, "/x") },
	}
	for name, call := range calls {
		for kind := api.FaultError; kind <= api.FaultCrash; kind++ {
			f := with(t, "/a/b", "xy", "/c", "z")
			f.SetFault(1, kind, 1)
			wantErr(t, name, call(f), faultErrors[kind])
			checkAfterFault(t, f, kind, "/a/b", "xy", "/c", "z")
		}
	}
}

func readErr(f *FS, path string) api.Errno {
	b, err := f.Read(path)
	if err != api.OK && b != nil {
		return -1
	}
	return err
}

func listErr(f *FS, dir string) api.Errno {
	l, err := f.List(dir)
	if err != api.OK && l != nil {
		return -1
	}
	return err
}

// checkAfterFault holds f, whose third call had a fault, against the files that it is to have, and finds out that the fault is gone.
func checkAfterFault(t *testing.T, f *FS, kind int, pairs ...string) {
	t.Helper()
	if f.Calls() != 3 {
		t.Error(f.Calls(), "calls")
	}
	wantFiles(t, f, pairs...)
	if f.Down() != (kind == api.FaultCrash) {
		t.Error("down:", f.Down())
	}
	if f.Down() {
		wantErr(t, "Restart", f.Restart(), api.OK)
	}
	for range 5 {
		wantListErr(t, f, "/nothing", api.ErrNone)
	}
}

// TestFaultOfWrite: P2.3, P2.6 and P2.7, how much is written for each keep.
func TestFaultOfWrite(t *testing.T) {
	for _, c := range []struct {
		path  string
		after bool
		b     string
		keep  int
		files []string // with FaultShort or FaultCrash
	}{
		{"/c", false, "123", 0, []string{"/a/b", "xy", "/c", ""}},
		{"/c", false, "123", 1, []string{"/a/b", "xy", "/c", "1"}},
		{"/c", false, "123", 2, []string{"/a/b", "xy", "/c", "12"}},
		{"/c", false, "123", 3, []string{"/a/b", "xy", "/c", "123"}},
		{"/c", false, "123", 4, []string{"/a/b", "xy", "/c", "123"}},
		{"/c", false, "", math.MaxInt, []string{"/a/b", "xy", "/c", ""}},
		{"/n", false, "123", 0, []string{"/a/b", "xy", "/c", "z", "/n", ""}},
		{"/n", false, "123", 2, []string{"/a/b", "xy", "/c", "z", "/n", "12"}},
		{"/c", true, "123", 0, []string{"/a/b", "xy", "/c", "z"}},
		{"/c", true, "123", 1, []string{"/a/b", "xy", "/c", "z1"}},
		{"/c", true, "123", 3, []string{"/a/b", "xy", "/c", "z123"}},
		{"/c", true, "123", math.MaxInt, []string{"/a/b", "xy", "/c", "z123"}},
		{"/n", true, "123", 0, []string{"/a/b", "xy", "/c", "z", "/n", ""}},
		{"/n", true, "123", 2, []string{"/a/b", "xy", "/c", "z", "/n", "12"}},
	} {
		for kind := api.FaultError; kind <= api.FaultCrash; kind++ {
			f := with(t, "/a/b", "xy", "/c", "z")
			f.SetFault(1, kind, c.keep)
			wantErr(t, "the call", putErr(f, c.path, c.b, c.after), faultErrors[kind])
			if kind == api.FaultError {
				checkAfterFault(t, f, kind, "/a/b", "xy", "/c", "z")
			} else {
				checkAfterFault(t, f, kind, c.files...)
			}
		}
	}
}

func putErr(f *FS, path, b string, after bool) api.Errno {
	if after {
		return f.Append(path, []byte(b))
	}
	return f.Write(path, []byte(b))
}

// TestFaultOfRefusedWrite: P2.3, a Write or Append that would return an error writes nothing, and returns that of the fault.
func TestFaultOfRefusedWrite(t *testing.T) {
	long := string(make([]byte, api.MaxFile))
	for kind := api.FaultError; kind <= api.FaultCrash; kind++ {
		for _, c := range []struct {
			path  string
			b     string
			after bool
		}{
			{"/a", "123", false}, {"/a", "123", true}, {"/c/d", "123", false}, {"/c/d", "123", true},
			{"/n", long + "x", false}, {"/n", long + "x", true}, {"/c", long + "x", false}, {"/c", long, true},
		} {
			f := with(t, "/a/b", "xy", "/c", "z")
			f.SetFault(1, kind, 1)
			wantErr(t, "the call for "+c.path, putErr(f, c.path, c.b, c.after), faultErrors[kind])
			checkAfterFault(t, f, kind, "/a/b", "xy", "/c", "z")
		}
	}
}

// TestDown: P2.1, P2.2 and P2.3, what works while the system is down, and Restart.
func TestDown(t *testing.T) {
	f := with(t, "/a/b", "xy", "/c", "z")
	f.SetFault(1, api.FaultCrash, 0)
	wantErr(t, "Remove", f.Remove("/c"), api.ErrDown)
	for _, path := range []string{"/c", "/a", "/x", "", "/"} {
		wantReadErr(t, f, path, api.ErrDown)
		wantErr(t, "Write", f.Write(path, []byte("q")), api.ErrDown)
		wantErr(t, "Append", f.Append(path, []byte("q")), api.ErrDown)
		wantErr(t, "Rename", f.Rename(path, "/n"), api.ErrDown)
		wantErr(t, "Remove", f.Remove(path), api.ErrDown)
		wantListErr(t, f, path, api.ErrDown)
	}
	wantIs(t, f, "/a", false, true)
	wantIs(t, f, "/c", true, false)
	wantIs(t, f, "/", false, true)
	if f.Calls() != 3 || !f.Down() {
		t.Error(f.Calls(), f.Down())
	}
	var paths []string
	for path := range f.Paths() {
		paths = append(paths, path)
	}
	if len(paths) != 2 {
		t.Error(paths)
	}
	wantErr(t, "Restart", f.Restart(), api.OK)
	if f.Down() || f.Calls() != 3 {
		t.Error(f.Down(), f.Calls())
	}
	wantErr(t, "Restart again", f.Restart(), api.ErrArg)
	wantFiles(t, f, "/a/b", "xy", "/c", "z")
	wantErr(t, "Remove", f.Remove("/c"), api.OK)
}
