package killring

import "lanyard/api"

// cycle holds entries in an array whose end is followed by its beginning. No entry is ever changed in place, so that copies of a cycle can share them.
type cycle struct {
	slots  [api.MaxKills][]rune
	newest int // the slot of entry 0
	count  int
}

// slot returns where entry i is, or would be.
func (c *cycle) slot(i int) int { return (c.newest + i) % len(c.slots) }

func (c *cycle) entry(i int) []rune { return c.slots[c.slot(i)] }

// push makes l the newest entry, which takes the slot of the oldest one if there is no other.
func (c *cycle) push(l []rune) {
	c.newest = c.slot(len(c.slots) - 1)
	c.count = min(c.count+1, len(c.slots))
	c.replace(l)
}

// replace puts l in the place of the newest entry.
func (c *cycle) replace(l []rune) { c.slots[c.newest] = l }
