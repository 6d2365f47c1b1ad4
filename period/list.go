package period

import (
	"cmp"
	"slices"
)

// Union is the integers of all spans, as a disjoint list in which no span meets the next one.
func Union(l []Span) []Span {
	rest := valid(l...)
	slices.SortFunc(rest, func(a, b Span) int { return cmp.Compare(a.From, b.From) })
	var union []Span
spans:
	for len(rest) > 0 {
		whole := rest[0]
		for i, s := range rest {
			if s.From > whole.To {
				union, rest = append(union, whole), rest[i:]
				continue spans
			}
			whole.To = max(whole.To, s.To)
		}
		return append(union, whole)
	}
	return union
}

// Apart reports whether l is disjoint: with valid spans, each of which ends before the next one begins.
func Apart(l []Span) bool {
	for i, s := range l {
		if !Right(s) || i > 0 && l[i-1].To > s.From {
			return false
		}
	}
	return true
}

// Minus is what by does not contain of each span of l.
func Minus(l []Span, by Span) []Span {
	var rest []Span
	for _, s := range l {
		kept, _, _ := Cut(s, by)
		rest = append(rest, kept...)
	}
	return rest
}
