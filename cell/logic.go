package cell

import (
	"hindsight/api"
)

// Truth is whether v is true, and whether that is known.
func Truth(v api.Value) (bool, bool, api.Errno) {
	if !Right(v) {
		return false, false, api.ErrForm
	}
	if !isNumeric(v) {
		return false, false, api.ErrType
	}
	if v == null() {
		return false, false, api.OK
	}
	return v.Int != 0, true, api.OK
}

// And is 1 if both are true, 0 if one is false, and null otherwise.
func And(a, b api.Value) (api.Value, api.Errno) { return decide(a, b, false) }

// Or is 0 if both are false, 1 if one is true, and null otherwise.
func Or(a, b api.Value) (api.Value, api.Errno) { return decide(a, b, true) }

// decide is the truth value winner if one argument has it, null if one is unknown, and the other truth value otherwise.
func decide(a, b api.Value, winner bool) (api.Value, api.Errno) {
	// A value that is not valid goes before one of a wrong kind, whichever of the two it is.
	if !Right(a) || !Right(b) {
		return null(), api.ErrForm
	}
	yesA, knownA, err := Truth(a)
	if err != api.OK {
		return null(), err
	}
	yesB, knownB, err := Truth(b)
	if err != api.OK {
		return null(), err
	}
	if knownA && yesA == winner || knownB && yesB == winner {
		return Bool(winner), api.OK
	}
	if !knownA || !knownB {
		return null(), api.OK
	}
	return Bool(!winner), api.OK
}

// Not is the opposite truth value.
func Not(a api.Value) (api.Value, api.Errno) {
	yes, known, err := Truth(a)
	if err != api.OK || !known {
		return null(), err
	}
	return Bool(!yes), api.OK
}
