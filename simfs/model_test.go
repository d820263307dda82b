package simfs

import (
	"maps"
	"math/rand/v2"
	"slices"
	"sort"
	"strings"
	"testing"

	"lanyard/api"
)

// model says what the chapter says, word by word and without haste; the small limits of the random walk are not reached.
type model struct {
	files map[string]string
	down  bool
	calls int64
	left  int
	kind  int
	keep  int
}

func (m *model) clone() *model {
	c := *m
	c.files = maps.Clone(m.files)
	return &c
}

// dirs are / and every beginning of a file's path that ends before one of its slashes.
func (m *model) dirs() map[string]bool {
	dirs := map[string]bool{"/": true}
	for path := range m.files {
		for i := 1; i < len(path); i++ {
			if path[i] == '/' {
				dirs[path[:i]] = true
			}
		}
	}
	return dirs
}

func (m *model) readErr(path string) api.Errno {
	if m.dirs()[path] {
		return api.ErrDir
	}
	if _, is := m.files[path]; !is {
		return api.ErrNone
	}
	return api.OK
}

func (m *model) writeErr(path string) api.Errno {
	bad := m.dirs()[path]
	for file := range m.files {
		bad = bad || strings.HasPrefix(path, file+"/")
	}
	if bad {
		return api.ErrDir
	}
	return api.OK
}

func (m *model) list(dir string) []string {
	var names []string
	for path := range m.files {
		if rest, ok := strings.CutPrefix(path, strings.TrimSuffix(dir, "/")+"/"); ok {
			name, _, deeper := strings.Cut(rest, "/")
			if deeper {
				name += "/"
			}
			if !slices.Contains(names, name) {
				names = append(names, name)
			}
		}
	}
	sort.Strings(names)
	return names
}

// op is a counted call.
type op struct {
	name string
	path string
	to   string
	b    string
}

// answer is what a counted call returns.
type answer struct {
	b    string
	list []string
	err  api.Errno
}

func (a answer) equal(c answer) bool {
	return a.b == c.b && a.err == c.err && slices.Equal(a.list, c.list)
}

// plain is a call without the fault.
func (m *model) plain(o op) answer {
	switch o.name {
	case "Read":
		if err := m.readErr(o.path); err != api.OK {
			return answer{err: err}
		}
		return answer{b: m.files[o.path]}
	case "Write", "Append":
		if err := m.writeErr(o.path); err != api.OK {
			return answer{err: err}
		}
		old := m.files[o.path]
		if o.name == "Write" {
			old = ""
		}
		m.files[o.path] = old + o.b
	case "Rename":
		if err := m.readErr(o.path); err != api.OK {
			return answer{err: err}
		}
		without := m.clone()
		delete(without.files, o.path)
		if err := without.writeErr(o.to); err != api.OK {
			return answer{err: err}
		}
		without.files[o.to] = m.files[o.path]
		m.files = without.files
	case "Remove":
		if err := m.readErr(o.path); err != api.OK {
			return answer{err: err}
		}
		delete(m.files, o.path)
	case "List":
		if _, is := m.files[o.path]; is {
			return answer{err: api.ErrDir}
		}
		if !m.dirs()[o.path] {
			return answer{err: api.ErrNone}
		}
		return answer{list: m.list(o.path)}
	}
	return answer{}
}

func (m *model) call(o op) answer {
	if m.down {
		return answer{err: api.ErrDown}
	}
	valid := func(path string) bool { return !strings.HasSuffix(path, "/") }
	if !valid(o.path) && !(o.name == "List" && o.path == "/") || o.name == "Rename" && !valid(o.to) {
		return answer{err: api.ErrPath}
	}
	m.calls++
	if m.left > 0 {
		m.left--
		if m.left == 0 {
			return m.faulty(o)
		}
	}
	return m.plain(o)
}

func (m *model) faulty(o op) answer {
	writes := o.name == "Write" || o.name == "Append"
	if m.kind != api.FaultError && writes && m.clone().plain(o).err == api.OK {
		if len(o.b) > m.keep {
			o.b = o.b[:m.keep]
		}
		m.plain(o)
	}
	m.down = m.kind == api.FaultCrash
	return answer{err: faultErrors[m.kind]}
}

// do makes the call of the program.
func do(f *FS, o op) answer {
	switch o.name {
	case "Read":
		b, err := f.Read(o.path)
		return answer{b: string(b), err: err}
	case "Write":
		return answer{err: f.Write(o.path, []byte(o.b))}
	case "Append":
		return answer{err: f.Append(o.path, []byte(o.b))}
	case "Rename":
		return answer{err: f.Rename(o.path, o.to)}
	case "Remove":
		return answer{err: f.Remove(o.path)}
	}
	l, err := f.List(o.path)
	return answer{list: l, err: err}
}

// walkPaths lie above, below and beside each other; the last two are invalid.
var walkPaths = []string{"/a", "/a/b", "/a/b/c", "/a/bb", "/a/b!", "/ab", "/a!", "/a!/b", "/a/b/c/d/e", "/b/a", "/b", "/", "/a/"}

var walkCalls = []string{"Read", "Write", "Write", "Write", "Append", "Append", "Rename", "Rename", "Remove", "List"}

// walk takes steps that pick chooses (a number below n each time) with the program and with the model.
func walk(t *testing.T, steps int, pick func(n int) int) {
	f, m := New(), &model{files: map[string]string{}}
	path := func() string { return walkPaths[pick(len(walkPaths))] }
	for range steps {
		if pick(6) == 0 {
			walkFault(t, f, m, pick)
			continue
		}
		if pick(50) == 0 {
			f = f.Clone()
		}
		before := m.clone()
		o := op{walkCalls[pick(len(walkCalls))], path(), path(), "0123456789"[:pick(5)]}
		want := m.call(o)
		if got := do(f, o); !got.equal(want) {
			t.Fatalf("%v returns %v, not %v", o, got, want)
		}
		if want.err != api.OK && want.err != api.ErrShort && want.err != api.ErrDown && !maps.Equal(m.files, before.files) {
			t.Fatalf("%v: the model breaks P2.6", o)
		}
		compare(t, f, m)
	}
}

// walkFault lets both have a fault, or be up again.
func walkFault(t *testing.T, f *FS, m *model, pick func(n int) int) {
	if m.down && pick(2) == 0 {
		wantErr(t, "Restart", f.Restart(), api.OK)
		m.down = false
		return
	}
	k, kind, keep := pick(4), pick(4), pick(4)
	want := api.OK
	if m.down {
		want = api.ErrDown
	} else if m.left, m.kind, m.keep = k, kind, keep; kind == api.FaultNone {
		m.left = 0
	}
	wantErr(t, "SetFault", f.SetFault(k, kind, keep), want)
}

// compare holds all that can be asked without a counted call against the model.
func compare(t *testing.T, f *FS, m *model) {
	t.Helper()
	if f.Calls() != m.calls || f.Down() != m.down {
		t.Fatalf("Calls %d, Down %t, not %d, %t", f.Calls(), f.Down(), m.calls, m.down)
	}
	var pairs []string
	for _, path := range slices.Sorted(maps.Keys(m.files)) {
		pairs = append(pairs, path, m.files[path])
	}
	wantFiles(t, f, pairs...)
	dirs := m.dirs()
	for _, path := range walkPaths {
		_, is := m.files[path]
		wantIs(t, f, path, is, dirs[path])
		if is && dirs[path] {
			t.Errorf("%q breaks P2.5", path)
		}
	}
	if t.Failed() {
		t.FailNow()
	}
}

// TestWalk: P2.1 to P2.7, long walks with faults and restarts.
func TestWalk(t *testing.T) {
	for seed := range uint64(200) {
		walk(t, 300, rand.New(rand.NewPCG(seed, 2)).IntN)
	}
}

// FuzzWalk: the same, where the fuzzer chooses the steps.
func FuzzWalk(f *testing.F) {
	f.Add([]byte("write and append, rename and remove"))
	f.Fuzz(func(t *testing.T, b []byte) {
		walk(t, len(b)/5, func(n int) int {
			if len(b) == 0 {
				return n - 1
			}
			x := int(b[0]) % n
			b = b[1:]
			return x
		})
	})
}

// TestCrash: P2.7 word by word, for each crash of each call of a small script.
func TestCrash(t *testing.T) {
	ops := []op{
		{"Write", "/h", "", "old"}, {"Write", "/d/k", "", "kept"}, {"Append", "/h", "", "more"}, {"Write", "/h.tmp", "", "fresh"},
		{"Rename", "/h.tmp", "/h", ""}, {"Write", "/h", "", "newest"}, {"Remove", "/d/k", "", ""}, {"Append", "/n", "", "log"}, {"List", "/", "", ""},
	}
	for k := 1; k <= len(ops); k++ {
		for keep := range 8 {
			f, before := New(), New()
			f.SetFault(k, api.FaultCrash, keep)
			for i, o := range ops[:k] {
				if a := do(f, o); (a.err == api.ErrDown) != (i == k-1) {
					t.Fatal(o, a)
				}
				if i < k-1 {
					do(before, o)
				}
			}
			f.Restart()
			checkCrash(t, before, f, ops[k-1], keep)
		}
	}
}

func checkCrash(t *testing.T, before, after *FS, o op, keep int) {
	t.Helper()
	var pairs []string
	for path := range before.Paths() {
		if path == o.path && (o.name == "Write" || o.name == "Append") {
			continue
		}
		b, _ := before.Read(path)
		pairs = append(pairs, path, string(b))
	}
	if o.name == "Write" || o.name == "Append" {
		old, _ := before.Read(o.path)
		got, err := after.Read(o.path)
		wantErr(t, "Read", err, api.OK)
		if o.name == "Write" {
			old = nil
		}
		if want := string(old) + o.b[:min(keep, len(o.b))]; string(got) != want {
			t.Errorf("%v leaves %q, not %q", o, got, want)
		}
		wantErr(t, "Remove", after.Remove(o.path), api.OK)
	}
	wantFiles(t, after, pairs...)
}
