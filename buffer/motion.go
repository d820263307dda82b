package buffer

import "lanyard/ucell"

// Next returns where the rune after that at at begins, with those of width 0 behind it.
func Next(l []rune, at int) int { return ahead(l, place(l, at)+1, not(begins)) }

// Previous returns where the rune before at begins.
func Previous(l []rune, at int) int { return max(back(l, at, not(begins))-1, 0) }

// WordEnd returns the end of the word that at is in, or of the next one.
func WordEnd(l []rune, at int) int { return ahead(l, at, not(ucell.Letter), ucell.Letter) }

// WordStart returns the beginning of the word that at is in or behind.
func WordStart(l []rune, at int) int { return back(l, at, not(ucell.Letter), ucell.Letter) }

// BlankStart is WordStart for words that blanks delimit.
func BlankStart(l []rune, at int) int { return back(l, at, blank, not(blank)) }

// BlankEnd is WordEnd for words that blanks delimit.
func BlankEnd(l []rune, at int) int { return ahead(l, at, blank, not(blank)) }

// Find returns the nearest place after at, or before it, at which r stands, and whether there is one.
func Find(l []rune, at int, r rune, forward bool) (int, bool) {
	other := func(s rune) bool { return s != r }
	var found int
	if forward {
		found = ahead(l, place(l, at)+1, other)
	} else {
		found = back(l, at, other) - 1
	}
	if found < 0 || found == len(l) {
		return 0, false
	}
	return found, true
}

// begins reports whether the point can stop ahead of r: what has no width belongs to the rune before it, but a control is shown by itself.
func begins(r rune) bool { return ucell.Width(r) != 0 || ucell.Control(r) }

func blank(r rune) bool { return r == ' ' || r == '\t' }

func not(is func(rune) bool) func(rune) bool {
	return func(r rune) bool { return !is(r) }
}

// place returns the place of l that at counts as.
func place(l []rune, at int) int { return min(max(at, 0), len(l)) }

// ahead returns the place reached from at by skipping forward all runes of each kind in turn.
func ahead(l []rune, at int, kinds ...func(rune) bool) int {
	at = place(l, at)
	for _, is := range kinds {
		for at < len(l) && is(l[at]) {
			at++
		}
	}
	return at
}

// back is ahead in the other direction.
func back(l []rune, at int, kinds ...func(rune) bool) int {
	at = place(l, at)
	for _, is := range kinds {
		for at > 0 && is(l[at-1]) {
			at--
		}
	}
	return at
}
