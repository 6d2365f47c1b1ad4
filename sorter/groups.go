package sorter

import (
	"slices"

	"hindsight/api"
	"hindsight/varint"
)

// Groups has different rows, numbered in the order of their first occurrence.
type Groups struct {
	self    *Groups        // the group table itself: Group did not make a copy
	numbers map[string]int // of the rows, by their encodings
	rows    [][]api.Value
}

// Group is a group table without rows.
func Group() *Groups {
	g := &Groups{numbers: map[string]int{}}
	g.self = g
	return g
}

// made reports whether g is a group table that Group made.
func (g *Groups) made() bool { return g != nil && g.self == g }

// Put is the number of a row, and whether it is new.
func (g *Groups) Put(row []api.Value) (int, bool, api.Errno) {
	if !g.made() {
		return 0, false, api.ErrNil
	}
	if !valid(row) {
		return 0, false, api.ErrForm
	}
	number, isNew := g.put(row)
	return number, isNew, api.OK
}

// put is the number of a row, whether its values are valid or not, and whether it is new.
func (g *Groups) put(row []api.Value) (int, bool) {
	name := encoding(row)
	number, some := g.numbers[name]
	if !some {
		number = len(g.rows)
		g.numbers[name] = number
		g.rows = append(g.rows, slices.Clone(row))
	}
	return number, !some
}

// encoding is bytes that no other row has: each value tells where it ends.
func encoding(row []api.Value) string {
	var b []byte
	for _, v := range row {
		b = append(b, v.Kind)
		b = append(b, varint.PutInt(v.Int)...)
		b = append(b, varint.PutText(v.Text)...)
	}
	return string(b)
}

// Rows is all rows in the order of their numbers.
func (g *Groups) Rows() [][]api.Value {
	if !g.made() {
		return nil
	}
	return copied(g.rows)
}

// copied is rows in memory of their own.
func copied(rows [][]api.Value) [][]api.Value {
	l := make([][]api.Value, 0, len(rows))
	for _, row := range rows {
		l = append(l, slices.Clone(row))
	}
	return l
}

// Distinct is each row once, at its first occurrence.
func Distinct(rows [][]api.Value) [][]api.Value {
	g := Group()
	for _, row := range rows {
		g.put(row)
	}
	// Nobody else has g, so that its rows need not be copied.
	return g.rows
}

// Limit is the first rows, at most most of them.
func Limit(rows [][]api.Value, most int64) [][]api.Value {
	count := max(0, min(most, int64(len(rows))))
	return copied(rows[:count])
}
