package buffer

import "lanyard/api"

// gapped is a line in two parts with the room for more between them, so that changes near one another move few runes.
type gapped struct {
	runes  [api.MaxLine]rune
	before int // the runes ahead of the gap, at the beginning
	behind int // those behind it, at the end
}

func (g *gapped) length() int { return g.before + g.behind }

// gap returns how many runes there is room for.
func (g *gapped) gap() int { return len(g.runes) - g.length() }

// part returns a copy of the runes from from up to to.
func (g *gapped) part(from, to int) []rune {
	first := g.runes[min(from, g.before):min(to, g.before)]
	second := g.runes[max(from, g.before)+g.gap() : max(to, g.before)+g.gap()]
	return append(append([]rune(nil), first...), second...)
}

// move brings the gap to the place at, by copying the runes between it and there to its other side.
func (g *gapped) move(at int) {
	if at < g.before {
		copy(g.runes[at+g.gap():], g.runes[at:g.before])
	} else {
		copy(g.runes[g.before:], g.runes[g.before+g.gap():at+g.gap()])
	}
	g.before, g.behind = at, g.length()-at
}

// replace puts l in the place of the runes from from up to to; there must be room for it.
func (g *gapped) replace(from, to int, l []rune) {
	g.move(from)
	g.behind -= to - from
	g.before += copy(g.runes[from:], l)
}
