package eval

import (
	"hindsight/api"
	"hindsight/cell"
	"hindsight/period"
	"hindsight/runes"
)

// called is the operation of a call with so many arguments; nil if there is none.
func called(op string, count int) operation {
	switch {
	case op == "overlaps" && count == 4:
		return spanned(period.Overlaps)
	case op == "contains" && count == 4:
		return spanned(period.Contains)
	case op == "length" && count == 1:
		return one(length)
	}
	return nil
}

// spanned is the operation that holds two spans, given by four integers, against each other.
func spanned(holds func(a, b period.Span) bool) operation {
	return func(args []api.Value) (api.Value, api.Errno) {
		edges, err := integers(args)
		// Fewer integers than arguments: one of those is null.
		if err != api.OK || len(edges) < len(args) {
			return api.Value{}, err
		}
		a, b := period.Span{From: edges[0], To: edges[1]}, period.Span{From: edges[2], To: edges[3]}
		if !period.Right(a) || !period.Right(b) {
			return api.Value{}, api.ErrEmpty
		}
		return cell.Bool(holds(a, b)), api.OK
	}
}

// integers is those of l, whose values are valid and may be null as well.
func integers(l []api.Value) ([]int64, api.Errno) {
	var numbers []int64
	for _, v := range l {
		x, _ := cell.To(v)
		n, is := x.(int64)
		if !is && x != nil {
			return nil, api.ErrType
		}
		if is {
			numbers = append(numbers, n)
		}
	}
	return numbers, api.OK
}

// length is the number of code points of a text, or of bytes of a blob.
func length(v api.Value) (api.Value, api.Errno) {
	x, _ := cell.To(v)
	switch y := x.(type) {
	case nil:
		return api.Value{}, api.OK
	case string:
		count, err := runes.Count(y)
		if err != api.OK {
			return api.Value{}, err
		}
		return number(count), api.OK
	case []byte:
		return number(len(y)), api.OK
	}
	return api.Value{}, api.ErrType
}

// number is the value of a number of things.
func number(count int) api.Value { return api.Value{Kind: api.Int, Int: int64(count)} }
