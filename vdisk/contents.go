package vdisk

import (
	"maps"

	"hindsight/api"
)

// place is the file and the number of a sector.
type place [2]int

// write is what is written at a place.
type write struct {
	at place
	b  [api.Sector]byte
}

// contents are the sectors that were written, and the lengths of the files.
type contents struct {
	sectors map[place][api.Sector]byte
	lengths [files]int
}

// empty is the contents of a new disk.
func empty() contents { return contents{sectors: map[place][api.Sector]byte{}} }

// put stores what w writes.
func (c *contents) put(w write) {
	c.sectors[w.at] = w.b
	file, sector := w.at[0], w.at[1]
	c.lengths[file] = max(c.lengths[file], sector+1)
}

// clone is the same contents in new memory.
func (c *contents) clone() contents { return contents{maps.Clone(c.sectors), c.lengths} }
