package tinfo

import "lanyard/api"

// setting is a string of an entry.
type setting struct {
	name string
	text string
}

// Shipped returns the entry of a terminal that the program knows by itself.
func Shipped(name string) (api.Term, bool) {
	switch name {
	case "dumb":
		return dumb(), true
	case "vt220":
		return vt220(), true
	case "xterm":
		return xterm(), true
	}
	return api.Term{}, false
}

func dumb() api.Term {
	t := api.Term{Names: "dumb|a dumb terminal"}
	putFlags(&t, "am")
	putNumber(&t, "cols", 80)
	putTexts(&t, []setting{{"bel", "\a"}, {"cr", "\r"}, {"cud1", "\n"}, {"ind", "\n"}})
	return t
}

func vt220() api.Term {
	t := api.Term{Names: "vt220|vt200|a VT220"}
	putFlags(&t, "am", "mir", "msgr", "xenl")
	putNumber(&t, "cols", 80)
	putNumber(&t, "lines", 24)
	putNumber(&t, "it", 8)
	putTexts(&t, vt220Moves())
	putTexts(&t, vt220Edits())
	putTexts(&t, vt220Keys())
	return t
}

func vt220Moves() []setting {
	return []setting{
		{"bel", "\a"},
		{"cr", "\r"},
		{"cud1", "\n"},
		{"ind", "\n"},
		{"cub1", "\b"},
		{"cuf1", "\x1b[C"},
		{"cuu1", "\x1b[A"},
		{"home", "\x1b[H"},
		{"cup", "\x1b[%i%p1%d;%p2%dH"},
		{"csr", "\x1b[%i%p1%d;%p2%dr"},
		{"cuu", "\x1b[%p1%dA"},
		{"cud", "\x1b[%p1%dB"},
		{"cuf", "\x1b[%p1%dC"},
		{"cub", "\x1b[%p1%dD"},
		{"ri", "\x1bM"},
		{"sc", "\x1b7"},
		{"rc", "\x1b8"},
		{"nel", "\x1bE"},
	}
}

func vt220Edits() []setting {
	return []setting{
		{"clear", "\x1b[H\x1b[J"},
		{"el", "\x1b[K"},
		{"ed", "\x1b[J"},
		{"dch1", "\x1b[P"},
		{"dch", "\x1b[%p1%dP"},
		{"dl1", "\x1b[M"},
		{"dl", "\x1b[%p1%dM"},
		{"il1", "\x1b[L"},
		{"il", "\x1b[%p1%dL"},
		{"ich", "\x1b[%p1%d@"},
		{"ech", "\x1b[%p1%dX"},
		{"smir", "\x1b[4h"},
		{"rmir", "\x1b[4l"},
		{"sgr0", "\x1b[m"},
		{"rev", "\x1b[7m"},
		{"bold", "\x1b[1m"},
		{"smul", "\x1b[4m"},
		{"rmul", "\x1b[24m"},
		{"cnorm", "\x1b[?25h"},
		{"civis", "\x1b[?25l"},
	}
}

func vt220Keys() []setting {
	return []setting{
		{"kcub1", "\x1b[D"},
		{"kcuf1", "\x1b[C"},
		{"kcuu1", "\x1b[A"},
		{"kcud1", "\x1b[B"},
		{"kdch1", "\x1b[3~"},
		{"khome", "\x1b[1~"},
		{"kend", "\x1b[4~"},
		{"kbs", "\b"},
	}
}

func xterm() api.Term {
	t := vt220()
	t.Names = "xterm|an X terminal"
	putNumber(&t, "colors", 8)
	putNumber(&t, "pairs", 64)
	putTexts(&t, []setting{
		{"kbs", "\x7f"},
		{"khome", "\x1bOH"},
		{"kend", "\x1bOF"},
		{"kcub1", "\x1bOD"},
		{"kcuf1", "\x1bOC"},
		{"kcuu1", "\x1bOA"},
		{"kcud1", "\x1bOB"},
		{"smkx", "\x1b[?1h\x1b="},
		{"rmkx", "\x1b[?1l\x1b>"},
		{"hpa", "\x1b[%i%p1%dG"},
		{"vpa", "\x1b[%i%p1%dd"},
		{"ich1", "\x1b[@"},
		{"indn", "\x1b[%p1%dS"},
		{"rin", "\x1b[%p1%dT"},
		{"cbt", "\x1b[Z"},
	})
	return t
}

func putFlags(t *api.Term, names ...string) {
	for _, name := range names {
		put(t, name, api.Cap{State: api.CapIs})
	}
}

func putNumber(t *api.Term, name string, n int) {
	put(t, name, api.Cap{State: api.CapIs, Num: n})
}

func putTexts(t *api.Term, l []setting) {
	for _, s := range l {
		put(t, s.name, api.Cap{State: api.CapIs, Text: s.text})
	}
}
