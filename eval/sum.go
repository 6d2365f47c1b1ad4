package eval

import (
	"hindsight/api"
	"hindsight/cell"
	"hindsight/syntax"
	"hindsight/typing"
)

// Sum is an aggregate of rows that Begin made.
type Sum struct {
	self  *Sum // the aggregate itself: Begin did not make a copy
	node  typing.Node
	count int       // how many rows or values were counted
	value api.Value // of the others than count: null if there was no value yet
}

// Begin is the aggregate n, without rows.
func Begin(n typing.Node) (*Sum, api.Errno) {
	if !isAggregate(n) {
		return nil, api.ErrForm
	}
	// Lift hands out each aggregate in memory of its own, so that the caller may change n.
	_, own := typing.Lift(n, 0)
	s := &Sum{node: own[0]}
	s.self = s
	return s, api.OK
}

// isAggregate reports whether n is an aggregate.
func isAggregate(n typing.Node) bool {
	if n.Kind != syntax.Agg {
		return false
	}
	switch n.Op {
	case "count":
		return len(n.Args) <= 1
	case "sum", "min", "max":
		return len(n.Args) == 1
	}
	return false
}

// made reports whether s is an aggregate that Begin made.
func (s *Sum) made() bool { return s != nil && s.self == s }

// Add adds a row.
func (s *Sum) Add(row []api.Value) api.Errno {
	if !s.made() {
		return api.ErrNil
	}
	if len(s.node.Args) == 0 {
		s.count++
		return api.OK
	}
	v, err := Value(s.node.Args[0], row)
	if err != api.OK || isNull(v) {
		return err
	}
	return s.take(v)
}

// take adds a value that is not null.
func (s *Sum) take(v api.Value) api.Errno {
	first := isNull(s.value)
	switch s.node.Op {
	case "count":
		s.count++
	case "sum":
		total, err := cell.Add(api.Value{Kind: api.Int, Int: s.value.Int}, v)
		if err != api.OK {
			return err
		}
		s.value = total
	case "min":
		if first || cell.Order(v, s.value) < 0 {
			s.value = v
		}
	case "max":
		if first || cell.Order(v, s.value) > 0 {
			s.value = v
		}
	}
	return api.OK
}

// Value is the value of the aggregate for the rows so far.
func (s *Sum) Value() (api.Value, api.Errno) {
	if !s.made() {
		return api.Value{}, api.ErrNil
	}
	if s.node.Op == "count" {
		return number(s.count), api.OK
	}
	return s.value, api.OK
}
