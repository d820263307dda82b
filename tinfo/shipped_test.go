package tinfo

import (
	"reflect"
	"testing"

	"lanyard/api"
)

// entry is what a shipped Term is to be: all that is there, by name.
type entry struct {
	names   string
	flags   []string
	numbers map[string]int
	texts   map[string]string
}

func shippedEntries() map[string]entry {
	dumb := entry{
		names:   "dumb|a dumb terminal",
		flags:   []string{"am"},
		numbers: map[string]int{"cols": 80},
		texts:   map[string]string{"bel": "\x07", "cr": "\x0d", "cud1": "\x0a", "ind": "\x0a"},
	}
	vt220 := entry{
		names:   "vt220|vt200|a VT220",
		flags:   []string{"am", "mir", "msgr", "xenl"},
		numbers: map[string]int{"cols": 80, "lines": 24, "it": 8},
		texts:   vt220Texts(),
	}
	xterm := entry{
		names:   "xterm|an X terminal",
		flags:   vt220.flags,
		numbers: map[string]int{"cols": 80, "lines": 24, "it": 8, "colors": 8, "pairs": 64},
		texts:   vt220Texts(),
	}
	for name, text := range map[string]string{
		"kbs": "\x7f", "khome": "\033OH", "kend": "\033OF", "kcub1": "\033OD", "kcuf1": "\033OC", "kcuu1": "\033OA", "kcud1": "\033OB",
		"smkx": "\033[?1h\033=", "rmkx": "\033[?1l\033>", "hpa": "\033[%i%p1%dG", "vpa": "\033[%i%p1%dd", "ich1": "\033[@",
		"indn": "\033[%p1%dS", "rin": "\033[%p1%dT", "cbt": "\033[Z",
	} {
		xterm.texts[name] = text
	}
	return map[string]entry{"dumb": dumb, "vt220": vt220, "xterm": xterm}
}

func vt220Texts() map[string]string {
	return map[string]string{
		"bel": "\x07", "cr": "\x0d", "cud1": "\x0a", "ind": "\x0a", "cub1": "\x08", "cuf1": "\033[C", "cuu1": "\033[A", "home": "\033[H",
		"clear": "\033[H\033[J", "el": "\033[K", "ed": "\033[J", "cup": "\033[%i%p1%d;%p2%dH", "csr": "\033[%i%p1%d;%p2%dr",
		"dch1": "\033[P", "dch": "\033[%p1%dP", "dl1": "\033[M", "dl": "\033[%p1%dM", "il1": "\033[L", "il": "\033[%p1%dL",
		"ich": "\033[%p1%d@", "ech": "\033[%p1%dX", "smir": "\033[4h", "rmir": "\033[4l", "cuu": "\033[%p1%dA", "cud": "\033[%p1%dB",
		"cuf": "\033[%p1%dC", "cub": "\033[%p1%dD", "sgr0": "\033[m", "rev": "\033[7m", "bold": "\033[1m", "smul": "\033[4m", "rmul": "\033[24m",
		"ri": "\033M", "sc": "\0337", "rc": "\0338", "nel": "\033E", "cnorm": "\033[?25h", "civis": "\033[?25l", "kcub1": "\033[D", "kcuf1": "\033[C",
		"kcuu1": "\033[A", "kcud1": "\033[B", "kdch1": "\033[3~", "khome": "\033[1~", "kend": "\033[4~", "kbs": "\x08",
	}
}

// TestShipped: P3.5, that the three Terms have what the chapter lists, and nothing else.
func TestShipped(t *testing.T) {
	for name, want := range shippedEntries() {
		term, known := Shipped(name)
		if !known || term.Names != want.names || term.Wide || len(term.Exts) != 0 || Check(term) != api.OK {
			t.Errorf("%s: %t, %q, wide %t, %d Exts, Check %d", name, known, term.Names, term.Wide, len(term.Exts), Check(term))
		}
		for i, l := range [][]api.Cap{term.Bools, term.Nums, term.Strs} {
			if len(l) == 0 || l[len(l)-1].State == api.CapNone {
				t.Errorf("%s: the list %d ends with nothing", name, i)
			}
		}
		if present := countIs(term.Bools) + countIs(term.Nums) + countIs(term.Strs); present != len(want.flags)+len(want.numbers)+len(want.texts) {
			t.Errorf("%s: %d capabilities are there", name, present)
		}
		checkEntry(t, name, term, want)
	}
}

func checkEntry(t *testing.T, name string, term api.Term, want entry) {
	t.Helper()
	for _, flag := range want.flags {
		if !Flag(term, flag) {
			t.Errorf("%s lacks %s", name, flag)
		}
	}
	for number, n := range want.numbers {
		if got, is := Number(term, number); got != n || !is {
			t.Errorf("%s of %s is %d, %t, not %d", number, name, got, is, n)
		}
	}
	for text, s := range want.texts {
		if got, is := Text(term, text); got != s || !is {
			t.Errorf("%s of %s is %q, %t, not %q", text, name, got, is, s)
		}
	}
}

// countIs counts the capabilities that are not plainly absent.
func countIs(l []api.Cap) int {
	n := 0
	for _, c := range l {
		if c != (api.Cap{}) {
			n++
		}
	}
	return n
}

// TestShippedNothing: P3.5, other names, among them those of a Term's Names.
func TestShippedNothing(t *testing.T) {
	for _, name := range []string{"", "vt200", "a VT220", "VT220", "xterm ", "vt100", "dumb|a dumb terminal", "xterm-color", "dum", "dumb\x00"} {
		if term, known := Shipped(name); known || !reflect.DeepEqual(term, api.Term{}) {
			t.Errorf("Shipped of %q returns %v, %t", name, term, known)
		}
	}
}

// TestShippedOwnership: R3, that what a caller does to a Term reaches no other.
func TestShippedOwnership(t *testing.T) {
	for _, name := range []string{"dumb", "vt220", "xterm"} {
		a := shipped(t, name)
		for _, l := range [][]api.Cap{a.Bools, a.Nums, a.Strs} {
			clear(l[:cap(l)])
		}
		b := shipped(t, name)
		checkEntry(t, name, b, shippedEntries()[name])
	}
}

func shipped(t *testing.T, name string) api.Term {
	t.Helper()
	term, known := Shipped(name)
	if !known {
		t.Fatalf("%s is not shipped", name)
	}
	return term
}
