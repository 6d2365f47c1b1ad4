package schema

import (
	"hindsight/api"
	"hindsight/cell"
	"hindsight/key"
	"hindsight/period"
)

// mostKey is the greatest number of bytes of a row's key; it leaves room for what trees keep beside it in their keys.
const mostKey = 80

// Check is the error of a row that is not valid for t.
func Check(t Table, row []api.Value) api.Errno {
	_, err := KeyOf(t, row)
	return err
}

// KeyOf is the key of a row.
func KeyOf(t Table, row []api.Value) ([]byte, api.Errno) {
	switch {
	case !Right(t):
		return nil, api.ErrForm
	case len(row) != len(t.Columns):
		return nil, api.ErrArg
	}
	for i, c := range t.Columns {
		if err := c.check(row[i]); err != api.OK {
			return nil, err
		}
	}
	if hasPeriod(t) && !period.Right(span(t, row)) {
		return nil, api.ErrEmpty
	}
	parts := front(t, row)
	if t.Apart {
		parts = append(parts, row[t.From])
	}
	b, err := key.Write(parts)
	if err != api.OK || len(b) > mostKey {
		return nil, api.ErrLong
	}
	return b, api.OK
}

// FrontOf is the key of a row without the beginning of its period.
func FrontOf(t Table, row []api.Value) ([]byte, api.Errno) {
	if err := Check(t, row); err != api.OK {
		return nil, err
	}
	return key.Write(front(t, row))
}

// SpanOf is the period of a row, and whether it is valid and has one.
func SpanOf(t Table, row []api.Value) (period.Span, bool) {
	if Check(t, row) != api.OK || !hasPeriod(t) {
		return period.Span{}, false
	}
	return span(t, row), true
}

// check is the error of a value that may not be in a column.
func (c Column) check(v api.Value) api.Errno {
	switch {
	case !cell.Right(v):
		return api.ErrForm
	case v.Kind == api.Null && c.NotNull:
		return api.ErrNull
	case v.Kind != api.Null && v.Kind != c.Kind:
		return api.ErrType
	}
	return api.OK
}

// front is the values of Key of a row.
func front(t Table, row []api.Value) []api.Value {
	var l []api.Value
	for _, k := range t.Key {
		l = append(l, row[k])
	}
	return l
}

// span is the period of a row of a table that has one.
func span(t Table, row []api.Value) period.Span {
	return period.Span{From: row[t.From].Int, To: row[t.To].Int}
}
