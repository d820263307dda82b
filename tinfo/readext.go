package tinfo

import "lanyard/api"

// ext returns the capabilities of the extended part.
func (r *reader) ext() []api.Ext {
	start := r.at
	count := r.extCounts()
	flags := r.flags(count[0])
	r.even()
	numbers := r.numbers(count[1])
	textStart := r.at
	indices := r.shorts(count[2])
	nameStart := r.at
	places := r.shorts(count[0] + count[1] + count[2])
	table := r.take(count[4])
	if count[3] != countPresent(indices)+len(places) {
		fail(start+shortSize*3, api.ErrCount)
	}
	strs := texts(textStart, indices, table)
	names := namesAt(nameStart, places, table[endOfTexts(indices, strs):])
	return extsOf(names, flags, numbers, strs)
}

// extCounts returns the five counts at the beginning of the extended part; the last one, as a short, is no more than maxTable.
func (r *reader) extCounts() []int {
	start := r.at
	count := r.shorts(5)
	exts := 0
	for i, n := range count {
		exts += n
		if n < 0 || i == 2 && exts > maxExts {
			fail(start+shortSize*i, api.ErrCount)
		}
	}
	return count
}

func countPresent(indices []int) int {
	n := 0
	for _, at := range indices {
		if valueState(at) == api.CapIs {
			n++
		}
	}
	return n
}

// endOfTexts returns where the names begin: behind the string with the greatest index, and its byte 0.
func endOfTexts(indices []int, strs []api.Cap) int {
	last, end := -1, 0
	for i, at := range indices {
		if at > last {
			last, end = at, at+len(strs[i].Text)+1
		}
	}
	return end
}

// namesAt returns the names that begin at the places, the first one of which stands at start.
func namesAt(start int, places []int, table []byte) []string {
	var l []string
	names := extNames{}
	for i, at := range places {
		name, ok := textAt(table, at)
		if !ok || !names.add(name) {
			fail(start+shortSize*i, api.ErrTable)
		}
		l = append(l, name)
	}
	return l
}

// extsOf gives the capabilities of each kind their names.
func extsOf(names []string, kinds ...[]api.Cap) []api.Ext {
	var l []api.Ext
	for kind, caps := range kinds {
		for _, c := range caps {
			l = append(l, api.Ext{Kind: kind, Name: names[len(l)], Cap: c})
		}
	}
	return l
}
