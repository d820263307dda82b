package killring

import (
	"iter"
	"math"
	"slices"
	"strconv"
	"strings"
	"testing"

	"lanyard/api"
)

func wantErr(t *testing.T, what string, got, want api.Errno) {
	t.Helper()
	if got != want {
		t.Errorf("%s returns %d, not %d", what, got, want)
	}
}

// from returns a ring with these entries.
func from(t *testing.T, entries ...string) *Ring {
	t.Helper()
	var l [][]rune
	for _, entry := range entries {
		l = append(l, []rune(entry))
	}
	k, err := From(l...)
	wantErr(t, "From", err, api.OK)
	return k
}

// kill kills text in each of these ways: " +-" are KillNew, KillAppend and KillPrepend.
func kill(t *testing.T, k *Ring, texts ...string) {
	t.Helper()
	for _, text := range texts {
		way := strings.Index(" +-", text[:1])
		wantErr(t, "Kill of "+text, k.Kill(way, []rune(text[1:])...), api.OK)
	}
}

func shown(all iter.Seq2[int, []rune]) string {
	var parts []string
	for i, entry := range all {
		if i != len(parts) {
			return "entry " + strconv.Itoa(i) + " is yielded as number " + strconv.Itoa(len(parts))
		}
		parts = append(parts, string(entry))
	}
	return strings.Join(parts, "|")
}

// look returns the entries of k and what is at its place: "x|abc, x".
func look(k *Ring) string {
	yanked, err := k.Yank()
	if err == api.ErrBell && yanked == nil && k.Len() == 0 {
		return "none"
	}
	if err != api.OK {
		return "Yank returns " + strconv.Itoa(int(err))
	}
	return shown(k.All()) + ", " + string(yanked)
}

func wantLook(t *testing.T, what string, k *Ring, want string) {
	t.Helper()
	if got := look(k); got != want {
		t.Errorf("%s: %s, not %s", what, got, want)
	}
}

// wantText holds what Yank or Rotate returned against a text, or against an error and no text.
func wantText(t *testing.T, what string, got []rune, err api.Errno, want string, wantErr api.Errno) {
	t.Helper()
	if string(got) != want || err != wantErr || err != api.OK && got != nil {
		t.Errorf("%s returns %s, %d, not %s, %d", what, string(got), err, want, wantErr)
	}
}

func wantYank(t *testing.T, k *Ring, want string) {
	t.Helper()
	got, err := k.Yank()
	wantText(t, "Yank", got, err, want, api.OK)
}

func wantRotate(t *testing.T, k *Ring, n int, want string) {
	t.Helper()
	got, err := k.Rotate(n)
	wantText(t, "Rotate by "+strconv.Itoa(n), got, err, want, api.OK)
}

func spoil(l []rune) {
	l = l[:cap(l)]
	for i := range l {
		l[i] = '#'
	}
}

func times(n int) []rune { return slices.Repeat([]rune{'x'}, n) }

// numbered returns the texts of the numbers from first on, n of them.
func numbered(first, n int) []string {
	var texts []string
	for i := range n {
		texts = append(texts, strconv.Itoa(first+i))
	}
	return texts
}

// TestNumbers: the limits, ways and errors that the chapter names.
func TestNumbers(t *testing.T) {
	if api.MaxKills != 60 || api.MaxLine != 1024 || api.KillNew != 0 || api.KillAppend != 1 || api.KillPrepend != 2 {
		t.Error("a limit or a way is another number")
	}
	if api.ErrArg != 1 || api.ErrMade != 2 || api.ErrLong != 3 || api.ErrBell != 6 {
		t.Error("an error is another number")
	}
}

// TestChapter: the examples of the chapter, in their order.
func TestChapter(t *testing.T) {
	k := New()
	wantErr(t, "Kill", k.Kill(api.KillNew, 'b'), api.OK)
	wantErr(t, "Kill", k.Kill(api.KillAppend, 'c'), api.OK)
	wantErr(t, "Kill", k.Kill(api.KillPrepend, 'a'), api.OK)
	wantErr(t, "Kill", k.Kill(api.KillNew, 'x'), api.OK)
	wantLook(t, "Kill", k, "x|abc, x")
	wantYank(t, k, "x")
	wantRotate(t, k, 1, "abc")
	wantRotate(t, k, -1, "x")
	for range 100 {
		wantErr(t, "Kill", k.Kill(api.KillNew, 'y'), api.OK)
	}
	if k.Len() != api.MaxKills {
		t.Error(k.Len())
	}
	got, err := New().Yank()
	wantText(t, "Yank", got, err, "", api.ErrBell)

	k = New()
	kill(t, k, " ab", "+cd")
	wantYank(t, k, "abcd")
	kill(t, k, " x")
	wantYank(t, k, "x")
	wantRotate(t, k, 1, "abcd")
	wantRotate(t, k, 1, "x")
}

// TestNew: P9.1 (New); rings do not know of one another.
func TestNew(t *testing.T) {
	k, other := New(), New()
	wantLook(t, "New", k, "none")
	for i, entry := range k.All() {
		t.Error("All", i, entry)
	}
	kill(t, k, " a")
	wantLook(t, "the other one", other, "none")
}

// TestFrom: P9.1 (From), any entries that are not too many nor too long.
func TestFrom(t *testing.T) {
	for _, c := range []struct {
		entries []string
		want    string
	}{
		{nil, "none"},
		{[]string{""}, ", "},
		{[]string{"a"}, "a, a"},
		{[]string{"a", "b", "c"}, "a|b|c, a"},
		{[]string{"", "b", ""}, "|b|, "},
		{[]string{"a", "a"}, "a|a, a"},
		{[]string{"\u00e9\u0301", "\u4e2d", "\n\x00"}, "\u00e9\u0301|\u4e2d|\n\x00, \u00e9\u0301"},
	} {
		k := from(t, c.entries...)
		wantLook(t, "From", k, c.want)
		if k.Len() != len(c.entries) {
			t.Error("Len", k.Len(), len(c.entries))
		}
	}
	k, err := From(nil, []rune{'a'}, nil)
	wantErr(t, "From", err, api.OK)
	wantLook(t, "From", k, "|a|, ")
}

// TestFromLong: P9.1 (From), the greatest numbers of entries and of runes.
func TestFromLong(t *testing.T) {
	entries := slices.Repeat([][]rune{times(1024)}, 60)
	k, err := From(entries...)
	wantErr(t, "From of as many as there can be", err, api.OK)
	if k.Len() != 60 {
		t.Error(k.Len())
	}
	for i, entry := range k.All() {
		if !slices.Equal(entry, entries[i]) {
			t.Error("All", i, len(entry))
		}
	}
	wrong := [][][]rune{slices.Repeat([][]rune{nil}, 61), slices.Repeat([][]rune{{'a'}}, 5000), {times(1025)}, {times(1 << 20)}}
	for _, at := range []int{0, 1, 30, 59} {
		longer := slices.Clone(entries)
		longer[at] = times(1025)
		wrong = append(wrong, longer)
	}
	for _, entries := range wrong {
		if k, err := From(entries...); k != nil || err != api.ErrLong {
			t.Error("From", len(entries), k, err)
		}
	}
}

// TestFromThenKill: P9.1 (From, Kill), a ring that was made with entries goes on as any other.
func TestFromThenKill(t *testing.T) {
	for _, n := range []int{1, 2, 59, 60} {
		entries := numbered(0, n)
		k := from(t, entries...)
		kill(t, k, "+y", "-x", " new")
		want := append([]string{"new", "x0y"}, entries[1:]...)
		want = want[:min(len(want), 60)]
		wantLook(t, "Kill after From", k, strings.Join(want, "|")+", new")
	}
}

// TestKill: P9.1 (Kill), what becomes an entry and what extends one.
func TestKill(t *testing.T) {
	for _, c := range []struct{ kills, want string }{
		{" ", "none"},
		{" a", "a, a"},
		{" ab", "ab, ab"},
		{" a, b", "b|a, b"},
		{" a, a", "a|a, a"},
		{" a,+b", "ab, ab"},
		{" a,-b", "ba, ba"},
		{" ab,+cd,-ef", "efabcd, efabcd"},
		{" a, b,+c", "bc|a, bc"},
		{" a, b,-c", "cb|a, cb"},
		{"+a", "a, a"},
		{"-a", "a, a"},
		{"+a,+b", "ab, ab"},
		{"-a,-b", "ba, ba"},
		{"+", ", "},
		{"-", ", "},
		{"+,+", ", "},
		{"+,-", ", "},
		{"+, ", ", "},
		{"+, a", "a|, a"},
		{"+,+a", "a, a"},
		{"-,-a", "a, a"},
		{" a, ", "a, a"},
		{" a,+", "a, a"},
		{" a,-", "a, a"},
		{" a, b, ,+c", "bc|a, bc"},
		{" a\u0301,-\u4e2d,+\x00", "\u4e2da\u0301\x00, \u4e2da\u0301\x00"},
	} {
		k := New()
		kill(t, k, strings.Split(c.kills, ",")...)
		wantLook(t, "Kill of "+c.kills, k, c.want)
	}
}

// TestKillPlace: P9.1 (Kill), the place becomes 0 but for no runes with KillNew.
func TestKillPlace(t *testing.T) {
	for _, c := range []struct{ kill, want string }{
		{" ", "a|b|c, b"},
		{" d", "d|a|b|c, d"},
		{"+d", "ad|b|c, ad"},
		{"-d", "da|b|c, da"},
		{"+", "a|b|c, a"},
		{"-", "a|b|c, a"},
	} {
		k := from(t, "a", "b", "c")
		wantRotate(t, k, 1, "b")
		kill(t, k, c.kill)
		wantLook(t, "Kill of "+c.kill, k, c.want)
	}
}

// TestKillOldest: P9.1 (Kill), the oldest entry goes when there are too many, and only then.
func TestKillOldest(t *testing.T) {
	k := New()
	for i := range 200 {
		k.Rotate(i)
		kill(t, k, " "+strconv.Itoa(i))
		first := max(i-59, 0)
		want := numbered(first, i+1-first)
		slices.Reverse(want)
		wantLook(t, "Kill", k, strings.Join(want, "|")+", "+want[0])
		if k.Len() != len(want) {
			t.Error("Len", k.Len(), len(want))
		}
	}
	kill(t, k, "+b", "-a", " ")
	want := numbered(140, 60)
	slices.Reverse(want)
	want[0] = "a199b"
	wantLook(t, "an entry of a full ring that is extended", k, strings.Join(want, "|")+", a199b")
}

// TestKillWays: P9.1 (Kill), ErrArg for other ways, also where there is too much; nothing changes.
func TestKillWays(t *testing.T) {
	for _, way := range []int{-1, 3, 4, 1 << 8, 1 << 16, 1 << 32, math.MaxInt, math.MinInt, math.MinInt + 1, -1 << 32} {
		for _, l := range [][]rune{nil, {'a'}, times(1024), times(1025), times(1 << 16)} {
			k := New()
			wantErr(t, "Kill", k.Kill(way, l...), api.ErrArg)
			wantLook(t, "Kill", k, "none")
			k = from(t, "a", "b", "c")
			k.Rotate(2)
			wantErr(t, "Kill", k.Kill(way, l...), api.ErrArg)
			wantLook(t, "Kill", k, "a|b|c, c")
		}
	}
}

// TestKillLong: P9.1 (Kill), the greatest length of a kill and of the entry that it extends; with ErrLong nothing changes.
func TestKillLong(t *testing.T) {
	for _, c := range []struct {
		have, way, add int
		err            api.Errno
	}{
		{-1, 0, 1024, api.OK}, {-1, 1, 1024, api.OK}, {-1, 2, 1024, api.OK},
		{-1, 0, 1025, api.ErrLong}, {-1, 1, 1025, api.ErrLong}, {-1, 2, 1025, api.ErrLong},
		{0, 1, 1024, api.OK}, {0, 2, 1024, api.OK}, {0, 1, 1025, api.ErrLong}, {0, 2, 1025, api.ErrLong},
		{1, 0, 1024, api.OK}, {1, 1, 1024, api.ErrLong}, {1, 2, 1024, api.ErrLong}, {1, 1, 1023, api.OK}, {1, 2, 1023, api.OK},
		{1023, 1, 1, api.OK}, {1023, 2, 1, api.OK}, {1023, 1, 2, api.ErrLong}, {1023, 2, 2, api.ErrLong},
		{1024, 0, 1, api.OK}, {1024, 0, 1024, api.OK}, {1024, 0, 1025, api.ErrLong},
		{1024, 1, 0, api.OK}, {1024, 2, 0, api.OK}, {1024, 1, 1, api.ErrLong}, {1024, 2, 1, api.ErrLong},
		{512, 1, 512, api.OK}, {512, 2, 513, api.ErrLong}, {600, 1, 600, api.ErrLong}, {600, 0, 600, api.OK},
		{5, 0, 1 << 20, api.ErrLong}, {5, 1, 1 << 20, api.ErrLong}, {5, 2, 1 << 20, api.ErrLong},
	} {
		k := New()
		if c.have >= 0 {
			k, _ = From(times(c.have), []rune("old"))
			wantRotate(t, k, 1, "old")
		}
		before := look(k)
		what := "Kill of " + strconv.Itoa(c.add) + " in the way " + strconv.Itoa(c.way) + " where there are " + strconv.Itoa(c.have)
		wantErr(t, what, k.Kill(c.way, slices.Repeat([]rune{'y'}, c.add)...), c.err)
		if c.err != api.OK {
			wantLook(t, what, k, before)
			continue
		}
		yanked, _ := k.Yank()
		length := c.add
		if c.way != api.KillNew {
			length += max(c.have, 0)
		}
		if len(yanked) != length {
			t.Errorf("%s: an entry of %d", what, len(yanked))
		}
	}
}

// TestYank: P9.2 (Yank).
func TestYank(t *testing.T) {
	k := New()
	for range 2 {
		got, err := k.Yank()
		wantText(t, "Yank", got, err, "", api.ErrBell)
	}
	kill(t, k, " a")
	for range 3 {
		wantYank(t, k, "a")
	}
	kill(t, k, " b", " c")
	wantYank(t, k, "c")
	wantRotate(t, k, 2, "a")
	for range 3 {
		wantYank(t, k, "a")
	}
	odd := []rune{0, -1, math.MinInt32, math.MaxInt32, 0xd800, 0x110000, api.Bad, 0x301, 7, 10}
	k.Kill(api.KillNew, odd...)
	if got, err := k.Yank(); err != api.OK || !slices.Equal(got, odd) {
		t.Error("Yank", got, err)
	}
	k = from(t, "", "b")
	wantYank(t, k, "")
}

// TestRotate: P9.2 (Rotate), by any number.
func TestRotate(t *testing.T) {
	for _, n := range []int{0, 1, -1, 5, -1000, math.MaxInt, math.MinInt} {
		got, err := New().Rotate(n)
		wantText(t, "Rotate", got, err, "", api.ErrBell)
	}
	moves := []int{0, 1, -1, 2, -2, 3, -3, 4, -4, 5, -5, 6, 59, 60, 61, -59, -60, -61, 1000, -1000, math.MaxInt, math.MaxInt - 1, math.MinInt, math.MinInt + 1}
	for _, count := range []int{1, 2, 3, 7, 59, 60} {
		entries := numbered(0, count)
		for place := range count {
			for _, n := range moves {
				k := from(t, entries...)
				wantRotate(t, k, place, entries[place])
				to := ((place+n%count)%count + count) % count
				wantRotate(t, k, n, entries[to])
				wantLook(t, "Rotate", k, strings.Join(entries, "|")+", "+entries[to])
			}
		}
	}
}

// TestRotateOne: P9.2 (Rotate), one by one in both directions.
func TestRotateOne(t *testing.T) {
	k := from(t, "a", "b", "c")
	for _, want := range []string{"b", "c", "a", "b"} {
		wantRotate(t, k, 1, want)
	}
	for _, want := range []string{"a", "c", "b", "a", "c"} {
		wantRotate(t, k, -1, want)
	}
	wantRotate(t, k, 0, "c")
}

// TestRing: P9.3, rotating by one as often as there are entries, which is at most MaxKills times.
func TestRing(t *testing.T) {
	for kills := 1; kills <= 130; kills++ {
		k := New()
		for _, text := range numbered(0, kills) {
			kill(t, k, " "+text)
		}
		for _, start := range []int{0, 1, kills / 2, -1} {
			first, _ := k.Rotate(start)
			seen := map[string]int{}
			last := ""
			for range k.Len() {
				l, err := k.Rotate(1)
				wantErr(t, "Rotate", err, api.OK)
				last = string(l)
				seen[last]++
			}
			if len(seen) != min(kills, 60) || last != string(first) {
				t.Errorf("after %d kills %d were rotated to, from %s to %s", kills, len(seen), string(first), last)
			}
		}
	}
}

// TestOrder: P9.4, kills that are appended, or prepended backward, are yanked as they stood.
func TestOrder(t *testing.T) {
	line := []rune("The quick \u4e2d\u6587 fox e\u0301 \x01")
	for size := 1; size <= len(line); size++ {
		ahead, behind := from(t, "old"), from(t, "old")
		way := api.KillNew
		for piece := range slices.Chunk(line, size) {
			wantErr(t, "Kill", ahead.Kill(way, piece...), api.OK)
			way = api.KillAppend
		}
		way = api.KillNew
		for to := len(line); to > 0; to -= size {
			wantErr(t, "Kill", behind.Kill(way, line[max(to-size, 0):to]...), api.OK)
			way = api.KillPrepend
		}
		for _, k := range []*Ring{ahead, behind} {
			wantYank(t, k, string(line))
			wantRotate(t, k, 1, "old")
			wantRotate(t, k, 1, string(line))
		}
	}
}

// TestYanking: P9.3, what is killed is yanked.
func TestYanking(t *testing.T) {
	k := New()
	for n := 1; n <= 1024; n += 31 {
		kill(t, k, " "+string(times(n)))
		wantYank(t, k, string(times(n)))
		k.Rotate(n)
	}
}

// TestAll: P9.2 (All), as often and as far as one likes, whatever is killed later.
func TestAll(t *testing.T) {
	k := from(t, "a", "b", "c")
	k.Rotate(2)
	all := k.All()
	for range 2 {
		if got := shown(all); got != "a|b|c" {
			t.Error(got)
		}
	}
	for stop := range 3 {
		var seen []int
		for i := range all {
			seen = append(seen, i)
			if i == stop {
				break
			}
		}
		if len(seen) != stop+1 {
			t.Error("stopped at", stop, seen)
		}
	}
	kill(t, k, "+z", " d")
	if got := shown(all); got != "a|b|c" {
		t.Error("after kills:", got)
	}
	wantLook(t, "after All", k, "d|az|b|c, d")
	for i := range k.All() {
		k.Kill(api.KillNew, rune('0'+i))
	}
	wantLook(t, "kills within All", k, "3|2|1|0|d|az|b|c, 3")

	full := from(t, numbered(0, 60)...)
	all = full.All()
	for range 100 {
		full.Kill(api.KillNew, 'x')
	}
	if got := shown(all); got != strings.Join(numbered(0, 60), "|") {
		t.Error("after many kills:", got)
	}
	if k.Len() != 8 || full.Len() != 60 {
		t.Error("Len", k.Len(), full.Len())
	}
}

// TestClone: P9.2 (Clone), the same state, and independent from then on in both directions.
func TestClone(t *testing.T) {
	k := from(t, "a", "b", "c")
	k.Rotate(1)
	c := k.Clone()
	wantLook(t, "Clone", c, "a|b|c, b")
	kill(t, k, "+x", " y")
	wantLook(t, "Clone", c, "a|b|c, b")
	c.Rotate(1)
	wantLook(t, "Clone", c, "a|b|c, c")
	wantLook(t, "what was cloned", k, "y|ax|b|c, y")
	kill(t, c, "-z", " w")
	wantLook(t, "what was cloned", k, "y|ax|b|c, y")
	wantLook(t, "Clone of a clone", c.Clone(), "w|za|b|c, w")

	k = New()
	c = k.Clone()
	wantLook(t, "Clone", c, "none")
	kill(t, c, "+a")
	wantLook(t, "Clone", c, "a, a")
	wantLook(t, "what was cloned", k, "none")
}

// TestZero: R5, what no call returned.
func TestZero(t *testing.T) {
	for _, k := range []*Ring{nil, {}} {
		for range 2 {
			for _, n := range []int{0, 1, 5, -1, math.MinInt} {
				wantErr(t, "Kill", k.Kill(n, 'a'), api.ErrMade)
				wantErr(t, "Kill", k.Kill(n), api.ErrMade)
				wantErr(t, "Kill", k.Kill(n, times(1025)...), api.ErrMade)
				got, err := k.Rotate(n)
				wantText(t, "Rotate", got, err, "", api.ErrMade)
			}
			got, err := k.Yank()
			wantText(t, "Yank", got, err, "", api.ErrMade)
			if k.Len() != 0 || k.Clone() != nil {
				t.Error("Len", k.Len(), "Clone", k.Clone())
			}
			for i, entry := range k.All() {
				t.Error("All", i, entry)
			}
		}
		if k != nil && (k.made || k.Len() != 0 || k.kills.count != 0) {
			t.Error("a zero ring has changed")
		}
	}
}

// TestOwnership: R3, arguments are neither changed nor kept, and results are the caller's.
func TestOwnership(t *testing.T) {
	entries := [][]rune{[]rune("abc")[:2], []rune("cd"), nil}
	k, _ := From(entries...)
	spoil(entries[0])
	spoil(entries[1])
	entries[2] = []rune("e")
	wantLook(t, "From", k, "ab|cd|, ab")

	for _, way := range []int{api.KillNew, api.KillAppend, api.KillPrepend} {
		for _, k := range []*Ring{New(), from(t, ""), from(t, "mn", "op")} {
			l := append(make([]rune, 0, 10), 'x', 'y')
			wantErr(t, "Kill", k.Kill(way, l...), api.OK)
			if string(l) != "xy" || l[:3][2] != 0 {
				t.Error("Kill changes what it is given:", string(l[:3]))
			}
			before := look(k)
			spoil(l)
			wantLook(t, "Kill", k, before)
			wantOwned(t, k)
		}
	}
}

// wantOwned spoils what k returns, which k and its clones and iterators may not notice.
func wantOwned(t *testing.T, k *Ring) {
	t.Helper()
	before, c, all := look(k), k.Clone(), k.All()
	yanked, _ := k.Yank()
	spoil(yanked)
	rotated, _ := k.Rotate(0)
	spoil(rotated)
	for range 2 {
		for _, entry := range all {
			spoil(entry)
		}
	}
	wantLook(t, "after what it returned was changed", k, before)
	wantLook(t, "a clone", c, before)
	if got := shown(all) + ", "; !strings.HasPrefix(before, got) {
		t.Errorf("All: %s, not %s", got, before)
	}
}

// TestExtendedApart: R3, an entry that is extended in a clone, or behind what was yanked, is another text there only.
func TestExtendedApart(t *testing.T) {
	k := from(t, "ab")
	kill(t, k, "+c")
	c, d := k.Clone(), k.Clone()
	yanked, _ := k.Yank()
	kill(t, k, "+k")
	kill(t, c, "+c")
	kill(t, d, "-d")
	yanked = append(yanked, 'y')
	wantLook(t, "the ring", k, "abck, abck")
	wantLook(t, "a clone", c, "abcc, abcc")
	wantLook(t, "another clone", d, "dabc, dabc")
	if string(yanked) != "abcy" {
		t.Error(string(yanked))
	}
}
