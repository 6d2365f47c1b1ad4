package version

import (
	"hindsight/api"
	"hindsight/fixed"
	"hindsight/record"
)

// mostRow is the greatest number of bytes of a row's encoding: a tree's value has the From as well.
const mostRow = api.MaxRecord - fixed.WholeSize

// encode is what a tree has of a version, and whether the row is short enough.
func encode(r Row) ([]byte, bool) {
	row, err := record.Write(r.Values)
	if err != api.OK || len(row) > mostRow {
		return nil, false
	}
	from := fixed.Whole(r.From)
	return append(from[:], row...), true
}

// decode is the version, but for its To, of which a tree has b, and whether there is one.
func decode(b []byte) (Row, bool) {
	if len(b) < fixed.WholeSize {
		return Row{}, false
	}
	l, err := record.Read(b[fixed.WholeSize:])
	if err != api.OK {
		return Row{}, false
	}
	return Row{Values: l, From: fixed.ReadWhole([fixed.WholeSize]byte(b))}, true
}

// placeOf is the key in the history tree of the version of a key that ended at a stamp.
func placeOf(key string, to int64) string {
	a := fixed.Whole(to)
	return key + string(a[:])
}

// splitPlace is the key and the To of a place, and whether it is one.
func splitPlace(place string) (string, int64, bool) {
	end := len(place) - fixed.WholeSize
	if end < 1 {
		return "", 0, false
	}
	return place[:end], fixed.ReadWhole([fixed.WholeSize]byte([]byte(place[end:]))), true
}
