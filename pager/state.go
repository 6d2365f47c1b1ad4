package pager

import (
	"maps"
)

// state is the header as it is now and, in a transaction, the changed pages by number.
type state struct {
	header
	images map[int]image
}

// setHeader makes page 0 a changed page.
func (s *state) setHeader() { s.images[0] = s.header.image() }

// clone is the same state in new memory.
func (s state) clone() state { return state{s.header, maps.Clone(s.images)} }
