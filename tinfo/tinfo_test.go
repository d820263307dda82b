package tinfo

import (
	"reflect"
	"slices"
	"strings"
	"testing"

	"lanyard/api"
)

var none, gone = api.Cap{}, api.Cap{State: api.CapGone}

var flag = api.Cap{State: api.CapIs}

func number(n int) api.Cap { return api.Cap{State: api.CapIs, Num: n} }

func text(s string) api.Cap { return api.Cap{State: api.CapIs, Text: s} }

// sample is a Term with a capability of each kind in each state, by place and by a name of its own.
func sample() api.Term {
	return api.Term{
		Names: "ab|c",
		Bools: []api.Cap{flag, none, gone},
		Nums:  []api.Cap{number(80), none, gone, number(0)},
		Strs:  []api.Cap{none, text("\a"), gone, text("")},
		Exts: []api.Ext{
			{Kind: kindFlag, Name: "AX", Cap: flag}, {Kind: kindFlag, Name: "AN", Cap: none}, {Kind: kindFlag, Name: "AG", Cap: gone},
			{Kind: kindNumber, Name: "U8", Cap: number(3)}, {Kind: kindNumber, Name: "UN", Cap: none}, {Kind: kindNumber, Name: "UG", Cap: gone},
			{Kind: kindText, Name: "Ss", Cap: text("xy")}, {Kind: kindText, Name: "SN", Cap: none}, {Kind: kindText, Name: "SG", Cap: gone},
		},
	}
}

// copyOf returns a Term that shares nothing with t.
func copyOf(t api.Term) api.Term {
	t.Bools = append([]api.Cap(nil), t.Bools...)
	t.Nums = append([]api.Cap(nil), t.Nums...)
	t.Strs = append([]api.Cap(nil), t.Strs...)
	t.Exts = append([]api.Ext(nil), t.Exts...)
	return t
}

// identical reports whether all fields are equal, with the CapNones at the ends of the lists.
func identical(a, b api.Term) bool {
	return a.Names == b.Names && a.Wide == b.Wide && slices.Equal(a.Bools, b.Bools) && slices.Equal(a.Nums, b.Nums) && slices.Equal(a.Strs, b.Strs) && slices.Equal(a.Exts, b.Exts)
}

// TestExamples: the examples at the end of the chapter and those of its functions.
func TestExamples(t *testing.T) {
	if kind, at, known := Place("cup"); kind != 2 || at != 10 || !known {
		t.Error("Place", kind, at, known)
	}
	wantFlaw(t, nil, 0, api.ErrEnds)
	wantFlaw(t, []byte("not terminfo"), 0, api.ErrMagic)
	vt220, xterm, dumb := shipped(t, "vt220"), shipped(t, "xterm"), shipped(t, "dumb")
	if cup, is := Text(vt220, "cup"); cup != "\x1b[%i%p1%d;%p2%dH" || !is {
		t.Errorf("cup is %q, %t", cup, is)
	}
	if kbs, is := Text(xterm, "kbs"); kbs != "\x7f" || !is {
		t.Errorf("kbs is %q, %t", kbs, is)
	}
	if colors, is := Number(xterm, "colors"); colors != 8 || !is {
		t.Error("colors", colors, is)
	}
	if !Flag(xterm, "am") || Flag(xterm, "bw") {
		t.Error("am or bw")
	}
	if names := Names(xterm); names[0] != "xterm" {
		t.Errorf("%q", names)
	}
	wide, err := Set(dumb, "el", text("new"))
	if el, is := Text(wide, "el"); el != "new" || !is || err != api.OK {
		t.Errorf("el is %q, %t after Set, %d", el, is, err)
	}
	if !Same(dumb, shipped(t, "dumb")) {
		t.Error("Set changed dumb")
	}
	wantSetErr(t, dumb, "nothing", text("x"), api.ErrNone)
	for _, term := range []api.Term{vt220, xterm, dumb} {
		term.Exts = []api.Ext{{Kind: kindFlag, Name: "AX", Cap: flag}, {Kind: kindText, Name: "Ss", Cap: text("x")}}
		b := wantWritten(t, term)
		wantTerm(t, b, term)
		wantFlaw(t, b[:20], 20, api.ErrEnds)
	}
}

func wantSetErr(t *testing.T, term api.Term, name string, c api.Cap, want api.Errno) {
	t.Helper()
	got, err := Set(term, name, c)
	if err != want || !reflect.DeepEqual(got, api.Term{}) {
		t.Errorf("Set of %q to %v returns %v, %d, not %d", name, c, got, err, want)
	}
}

// TestGet: P3.4 (Get), by place and by a name of its own, within the lists and beyond their ends.
func TestGet(t *testing.T) {
	for _, c := range []struct {
		name  string
		want  api.Cap
		known bool
	}{
		{"bw", flag, true}, {"am", none, true}, {"xsb", gone, true}, {"xhp", none, true}, {"os", none, true},
		{"cols", number(80), true}, {"it", none, true}, {"lines", gone, true}, {"lm", number(0), true}, {"xmc", none, true}, {"ncv", none, true},
		{"cbt", none, true}, {"bel", text("\a"), true}, {"cr", gone, true}, {"csr", text(""), true}, {"tbc", none, true}, {"kend", none, true},
		{"AX", flag, true}, {"AN", none, true}, {"AG", gone, true}, {"U8", number(3), true}, {"UN", none, true}, {"UG", gone, true},
		{"Ss", text("xy"), true}, {"SN", none, true}, {"SG", gone, true},
		{"", none, false}, {"ab", none, false}, {"nothing", none, false}, {"ax", none, false}, {"AX ", none, false}, {"BW", none, false},
	} {
		if got, known := Get(sample(), c.name); got != c.want || known != c.known {
			t.Errorf("Get of %q returns %v, %t, not %v, %t", c.name, got, known, c.want, c.known)
		}
	}
	if got, known := Get(api.Term{}, "cup"); got != none || !known {
		t.Error("Get of cup in the zero Term", got, known)
	}
}

// TestGetInvalid: P3.4 and R1, Terms that Check rejects: Place comes before Exts, and of two Exts the first one counts.
func TestGetInvalid(t *testing.T) {
	odd := api.Cap{State: 7, Num: -1, Text: "z"}
	term := api.Term{
		Strs: []api.Cap{odd},
		Exts: []api.Ext{{Kind: 9, Name: "X", Cap: odd}, {Kind: kindFlag, Name: "X", Cap: flag}, {Kind: kindFlag, Name: "am", Cap: flag}, {Kind: kindText, Name: "", Cap: text("q")}},
	}
	for name, want := range map[string]api.Cap{"cbt": odd, "X": odd, "am": none, "": text("q")} {
		if got, known := Get(term, name); got != want || !known {
			t.Errorf("Get of %q returns %v, %t, not %v", name, got, known, want)
		}
	}
	if Flag(term, "X") || Flag(term, "am") {
		t.Error("a flag that is none")
	}
	if s, is := Text(term, "cbt"); s != "" || is {
		t.Errorf("cbt is %q, %t", s, is)
	}
	if s, is := Text(term, ""); s != "q" || !is {
		t.Errorf("the Ext without a name is %q, %t", s, is)
	}
}

// TestKinds: P3.4 (Flag, Number, Text), that each answers for its own kind and for what is there alone.
func TestKinds(t *testing.T) {
	flags := map[string]bool{"bw": true, "AX": true}
	numbers := map[string]int{"cols": 80, "lm": 0, "U8": 3}
	texts := map[string]string{"bel": "\a", "csr": "", "Ss": "xy"}
	names := []string{"", "nothing", "ab", "AN", "AG", "UN", "UG", "SN", "SG", "AX", "U8", "Ss"}
	eachPlace(func(name string, _, _ int) { names = append(names, name) })
	term := sample()
	for _, name := range names {
		if got := Flag(term, name); got != flags[name] {
			t.Errorf("Flag of %q is %t", name, got)
		}
		n, isNumber := numbers[name]
		if got, is := Number(term, name); got != n || is != isNumber {
			t.Errorf("Number of %q is %d, %t", name, got, is)
		}
		s, isText := texts[name]
		if got, is := Text(term, name); got != s || is != isText {
			t.Errorf("Text of %q is %q, %t", name, got, is)
		}
	}
}

// TestSet: P3.4 (Set), for every capability of the table and of the sample, in each state, and that t stays as it was (R3).
func TestSet(t *testing.T) {
	values := [3][]api.Cap{{flag, none, gone}, {number(0), number(32767), none, gone}, {text(""), text("\x1b[x\xff"), none, gone}}
	set := func(name string, kind int) {
		for _, c := range values[kind] {
			for _, term := range []api.Term{sample(), shipped(t, "dumb"), {Names: "n"}} {
				if _, known := Get(term, name); known {
					checkSet(t, term, name, c)
				}
			}
		}
	}
	eachPlace(func(name string, kind, _ int) { set(name, kind) })
	for _, x := range sample().Exts {
		set(x.Name, x.Kind)
	}
}

func checkSet(t *testing.T, term api.Term, name string, c api.Cap) {
	t.Helper()
	before := copyOf(term)
	got, err := Set(term, name, c)
	if err != api.OK || !identical(term, before) {
		t.Fatalf("Set of %q returns %d, and its argument is %v", name, err, term)
	}
	if is, known := Get(got, name); is != c || !known {
		t.Errorf("Get of %q returns %v, %t after Set of %v", name, is, known, c)
	}
	old, _ := Get(term, name)
	back, err := Set(got, name, old)
	if err != api.OK || !Same(back, term) {
		t.Errorf("Set of %q changes more than that", name)
	}
	scribble(got)
	scribble(back)
	if !identical(term, before) {
		t.Errorf("Set of %q shares a list with its argument", name)
	}
}

// scribble writes over the lists of a Term, also behind their ends.
func scribble(term api.Term) {
	for _, l := range [][]api.Cap{term.Bools, term.Nums, term.Strs} {
		for i := range l[:cap(l)] {
			l[:cap(l)][i] = text("scribble")
		}
	}
	for i := range term.Exts {
		term.Exts[i] = api.Ext{Name: "scribble"}
	}
}

// TestSetRoom: R3, that Set does not write into room behind a list of its argument.
func TestSetRoom(t *testing.T) {
	room := make([]api.Cap, 200)
	term := api.Term{Names: "n", Bools: room[:1:20], Nums: room[20:21:40], Strs: room[40:41]}
	for name, c := range map[string]api.Cap{"bw": flag, "am": flag, "cols": number(1), "it": number(1), "cbt": text("x"), "cup": text("x")} {
		if _, err := Set(term, name, c); err != api.OK {
			t.Error(name, err)
		}
	}
	for i, c := range room {
		if c != none {
			t.Fatal("the room is written to at", i)
		}
	}
}

// TestSetLength: P3.4 (Set), that a list is extended up to the capability and no further.
func TestSetLength(t *testing.T) {
	eachPlace(func(name string, kind, at int) {
		got, err := Set(api.Term{Names: "n"}, name, [3]api.Cap{flag, number(1), text("x")}[kind])
		lengths := [3]int{}
		lengths[kind] = at + 1
		if err != api.OK || [3]int{len(got.Bools), len(got.Nums), len(got.Strs)} != lengths {
			t.Errorf("Set of %s: %d; %d, %d, %d", name, err, len(got.Bools), len(got.Nums), len(got.Strs))
		}
	})
}

// TestSetErrors: P3.4 (Set), its errors in their order; with them it returns no Term, and t stays as it was.
func TestSetErrors(t *testing.T) {
	long, bad := text(strings.Repeat("x", 1001)), api.Cap{State: 3}
	for _, c := range []struct {
		name string
		c    api.Cap
		want api.Errno
	}{
		{"nothing", text("x"), api.ErrNone}, {"", text("x"), api.ErrNone}, {"nothing", long, api.ErrNone}, {"nothing", bad, api.ErrNone},
		{"el", long, api.ErrLong}, {"Ss", long, api.ErrLong}, {"AX", long, api.ErrLong}, {"cols", long, api.ErrLong},
		{"el", bad, api.ErrArg}, {"el", number(1), api.ErrArg}, {"el", text("\x00"), api.ErrArg}, {"am", number(1), api.ErrArg}, {"am", text("x"), api.ErrArg},
		{"cols", number(-1), api.ErrArg}, {"cols", number(32768), api.ErrArg}, {"cols", text("x"), api.ErrArg},
		{"AX", number(1), api.ErrArg}, {"U8", text("x"), api.ErrArg}, {"Ss", number(1), api.ErrArg}, {"SN", bad, api.ErrArg},
	} {
		term := sample()
		wantSetErr(t, term, c.name, c.c, c.want)
		if !reflect.DeepEqual(term, sample()) {
			t.Errorf("Set of %q changed its argument", c.name)
		}
	}
	wantSetErr(t, api.Term{}, "el", text("x"), api.ErrArg)
	wantSetErr(t, api.Term{}, "nothing", text("x"), api.ErrNone)
	wantSetErr(t, api.Term{Names: strings.Repeat("n", 512)}, "el", text("\x00"), api.ErrLong)
	// What was wrong may be mended by what is set.
	if got, err := Set(api.Term{Names: "n", Strs: []api.Cap{long}}, "cbt", gone); err != api.OK || got.Strs[0] != gone {
		t.Error("a Term that is mended:", got, err)
	}
}

// TestNames: P3.4 (Names).
func TestNames(t *testing.T) {
	for names, want := range map[string][]string{
		"xterm": {"xterm"}, "a|b|c d": {"a", "b", "c d"}, "a|": {"a", ""}, "|": {"", ""}, "a||b": {"a", "", "b"}, "\xff|/": {"\xff", "/"},
	} {
		if got := Names(api.Term{Names: names}); !slices.Equal(got, want) {
			t.Errorf("Names of %q are %q, not %q", names, got, want)
		}
	}
	if got := Names(shipped(t, "vt220")); !slices.Equal(got, []string{"vt220", "vt200", "a VT220"}) {
		t.Errorf("Names of vt220 are %q", got)
	}
}

// TestSame: P3.4 (Same), that every field counts, but not CapNones at the ends of Bools, Nums and Strs, and R4.
func TestSame(t *testing.T) {
	for i, change := range []func(*api.Term){
		func(x *api.Term) { x.Names = "ab|d" },
		func(x *api.Term) { x.Wide = true },
		func(x *api.Term) { x.Bools[1] = flag },
		func(x *api.Term) { x.Bools = x.Bools[:2] },
		func(x *api.Term) { x.Bools = append(x.Bools, none, flag) },
		func(x *api.Term) { x.Nums[0].Num++ },
		func(x *api.Term) { x.Nums = x.Nums[:3] },
		func(x *api.Term) { x.Nums = append(x.Nums, gone) },
		func(x *api.Term) { x.Strs[1].Text = "\b" },
		func(x *api.Term) { x.Strs = x.Strs[:3] },
		func(x *api.Term) { x.Strs = append(x.Strs, none, text("")) },
		func(x *api.Term) { x.Strs = slices.Insert(x.Strs, 0, none) },
		func(x *api.Term) { x.Exts = x.Exts[:8] },
		func(x *api.Term) { x.Exts[1].Cap = gone },
		func(x *api.Term) { x.Exts[1].Name = "AM" },
		func(x *api.Term) { x.Exts[2].Kind = kindNumber },
		func(x *api.Term) { x.Exts = append(x.Exts, api.Ext{Kind: kindText, Name: "SZ"}) },
	} {
		other := sample()
		change(&other)
		if Same(sample(), other) || Same(other, sample()) {
			t.Errorf("change %d makes no difference", i)
		}
	}
	longer := sample()
	longer.Bools, longer.Nums, longer.Strs = append(longer.Bools, none), append(longer.Nums, none, none), append(longer.Strs, none, none, none)
	if before := copyOf(longer); !Same(longer, sample()) || !Same(sample(), longer) || !Same(longer, longer) || !reflect.DeepEqual(longer, before) {
		t.Error("CapNones at an end make a difference")
	}
	empty := api.Term{Bools: []api.Cap{}, Nums: []api.Cap{none}, Strs: []api.Cap{none, none}, Exts: []api.Ext{}}
	if !Same(api.Term{}, empty) || !Same(empty, api.Term{}) || !Same(api.Term{}, api.Term{}) {
		t.Error("empty lists make a difference")
	}
}
