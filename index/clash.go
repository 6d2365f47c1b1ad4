package index

import (
	"bytes"

	"hindsight/api"
	"hindsight/key"
	"hindsight/period"
	"hindsight/schema"
	"hindsight/version"
)

// Clash reports whether a current version in the store, with a key other than but, clashes with row: in a table that is Apart, the values of Key are equal and the periods overlap.
func Clash(s *version.Store, t schema.Table, row []api.Value, but []byte) (bool, api.Errno) {
	front, err := schema.FrontOf(t, row)
	if err != api.OK || !t.Apart {
		return false, err
	}
	l, err := s.Front(front)
	if err != api.OK {
		return false, err
	}
	span, _ := schema.SpanOf(t, row)
	for _, r := range l {
		// A row that is not valid has neither a key nor a period.
		k, _ := schema.KeyOf(t, r.Values)
		other, _ := schema.SpanOf(t, r.Values)
		if key.Begins(k, front) && !bytes.Equal(k, but) && period.Overlaps(span, other) {
			return true, api.OK
		}
	}
	return false, api.OK
}
