package cell

import (
	"cmp"

	"hindsight/api"
)

// Compare is -1, 0 or 1 for two values of one kind, and whether neither is null.
func Compare(a, b api.Value) (int, bool, api.Errno) {
	if !Right(a) || !Right(b) {
		return 0, false, api.ErrForm
	}
	if a == null() || b == null() {
		return 0, false, api.OK
	}
	if a.Kind != b.Kind {
		return 0, false, api.ErrType
	}
	return Order(a, b), true, api.OK
}

// Order is -1, 0 or 1 by the order of values.
func Order(a, b api.Value) int {
	if a == b || !Right(a) || !Right(b) {
		return 0
	}
	if a.Kind != b.Kind {
		// The numbers of the kinds have the order of the kinds.
		return cmp.Compare(a.Kind, b.Kind)
	}
	if a.Int != b.Int {
		return cmp.Compare(a.Int, b.Int)
	}
	return cmp.Compare(a.Text, b.Text)
}
