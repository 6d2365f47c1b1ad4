package clock

import (
	"hindsight/api"
	"hindsight/fixed"
)

// State is what a database keeps in its header.
type State struct {
	Last int64
	Root int
}

// mark is the byte with which the encoding of a state begins.
const mark = 1

// The size of an encoding, and where its parts are.
const (
	size    = 64
	lastAt  = 8
	rootAt  = 16
	zerosAt = 20
)

// Write is the encoding of s.
func Write(s State) ([64]byte, api.Errno) {
	if s.Root < 0 || s.Root >= api.MaxPages {
		return [size]byte{}, api.ErrForm
	}
	b := [size]byte{mark}
	last := fixed.Whole(s.Last)
	copy(b[lastAt:rootAt], last[:])
	fixed.Put(b[rootAt:zerosAt], s.Root)
	return b, api.OK
}

// Read is the state whose encoding is b; zeros are that of a new database.
func Read(b [64]byte) (State, api.Errno) {
	if b == ([size]byte{}) {
		return State{Last: First}, api.OK
	}
	s := State{
		Last: fixed.ReadWhole([fixed.WholeSize]byte(b[lastAt:rootAt])),
		Root: fixed.Get(b[rootAt:zerosAt]),
	}
	// A state has one encoding: what Write would not make is none.
	again, err := Write(s)
	if err != api.OK || again != b {
		return State{}, api.ErrCorrupt
	}
	return s, api.OK
}
