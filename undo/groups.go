package undo

import "lanyard/api"

// entry is an edit that was added to a list, and the entries that were added before it. It is never changed, so that a list, its clones and its iterators can share it.
type entry struct {
	edit   api.Edit
	before *entry
	edits  int // how many there are up to this one
	group  int // the number of its group, from 1 on
}

// groups are edits in groups, one behind the other.
type groups struct{ last *entry }

func (g *groups) edits() int {
	if g.last == nil {
		return 0
	}
	return g.last.edits
}

func (g *groups) count() int {
	if g.last == nil {
		return 0
	}
	return g.last.group
}

// push adds a copy of e: to the last group if it joins that, otherwise as a new one.
func (g *groups) push(e api.Edit, joins bool) {
	group := g.count()
	if !joins {
		group++
	}
	g.last = &entry{edit: same(e), before: g.last, edits: g.edits() + 1, group: group}
}

// pop removes the last group, of which there must be one, and returns each of its edits, the last one first, as each makes it.
func (g *groups) pop(each func(api.Edit) api.Edit) []api.Edit {
	var popped []api.Edit
	for group := g.count(); g.count() == group; g.last = g.last.before {
		popped = append(popped, each(g.last.edit))
	}
	return popped
}
