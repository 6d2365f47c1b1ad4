package version

import (
	"math"

	"hindsight/api"
)

// The kinds of views.
const (
	viewCurrent = iota
	viewAt      // at stamp A
	viewFrom    // from stamp A to B, without B
	viewBetween // between the stamps A and B, both included
	viewAll
)

// View says which versions of a table are visible.
type View struct {
	Kind int
	A, B int64
}

// Sees reports whether a view includes a version.
func Sees(v View, r Row) bool {
	switch v.Kind {
	case viewCurrent:
		return r.To == Now
	case viewAt:
		return r.From <= v.A && endsAbove(r, v.A)
	case viewFrom:
		return v.A < v.B && r.From < v.B && endsAbove(r, v.A)
	case viewBetween:
		return v.A <= v.B && r.From <= v.B && endsAbove(r, v.A)
	}
	return v.Kind == viewAll
}

// May is the error of a view that the table cannot have.
func (s *Store) May(v View) api.Errno {
	if !s.made() {
		return api.ErrNil
	}
	first := v.A // the first stamp of which the view needs the versions
	switch v.Kind {
	case viewCurrent:
		return api.OK
	case viewAt, viewFrom, viewBetween:
	case viewAll:
		first = math.MinInt64
	default:
		return api.ErrArg
	}
	switch {
	case s.history == nil:
		return api.ErrPeriod
	case first < s.mark:
		return api.ErrPruned
	}
	return api.OK
}

// endsAbove reports whether the To of r is above a stamp, as Now is above every one.
func endsAbove(r Row, stamp int64) bool { return r.To == Now || r.To > stamp }
