package period_test

import (
	"math"
	"slices"
	"testing"

	"hindsight/period"
)

// Short names for what the tests make by the dozen.
type (
	span  = period.Span
	spans = []period.Span
)

// The least and the greatest integers.
const (
	least    = math.MinInt64
	greatest = math.MaxInt64
)

// edges are integers between which spans are laid, in increasing order, among them the least and the greatest ones.
func edges() []int64 {
	return []int64{least, least + 1, -3, 0, 1, 5, greatest - 1, greatest}
}

// points are the edges and the integers beside them: each contains or not what the integers up to the next edge do.
func points() []int64 {
	var l []int64
	for _, e := range edges() {
		l = append(l, e)
		if e > least {
			l = append(l, e-1)
		}
		if e < greatest {
			l = append(l, e+1)
		}
	}
	return l
}

// laid are all spans between edges, valid or not.
func laid(edges []int64) spans {
	var l spans
	for _, from := range edges {
		for _, to := range edges {
			l = append(l, span{From: from, To: to})
		}
	}
	return l
}

// within is the definition: whether s contains the integer p.
func within(s span, p int64) bool { return s.From <= p && p < s.To }

// some reports whether a span of l contains p.
func some(l spans, p int64) bool {
	return slices.ContainsFunc(l, func(s span) bool { return within(s, p) })
}

// runs are the spans, as long as can be, of the integers for which has holds, in order; has may change at edges only.
func runs(edges []int64, has func(p int64) bool) spans {
	var l spans
	in := false
	for i, e := range edges[:len(edges)-1] {
		is := has(e)
		switch {
		case is && in:
			l[len(l)-1].To = edges[i+1]
		case is:
			l = append(l, span{From: e, To: edges[i+1]})
		}
		in = is
	}
	return l
}

// without is the part of s that by does not contain.
func without(edges []int64, s, by span) spans {
	return runs(edges, func(p int64) bool { return within(s, p) && !within(by, p) })
}

// disjoint is the definition of a disjoint list, pair by pair.
func disjoint(l spans) bool {
	for i, a := range l {
		if a.From >= a.To {
			return false
		}
		for _, b := range l[i+1:] {
			if b.From <= a.From || max(a.From, b.From) < min(a.To, b.To) {
				return false
			}
		}
	}
	return true
}

// checkUnion holds Union of l against what it must be.
func checkUnion(t *testing.T, edges []int64, l spans) {
	t.Helper()
	before := slices.Clone(l)
	u := period.Union(l)
	if want := runs(edges, func(p int64) bool { return some(l, p) }); !slices.Equal(u, want) {
		t.Fatalf("Union(%v) = %v, want %v", before, u, want)
	}
	if !slices.Equal(l, before) {
		t.Fatalf("Union(%v) has made its argument %v", before, l)
	}
	for i, s := range u {
		if i > 0 && period.Meets(u[i-1], s) {
			t.Fatalf("Union(%v) = %v", before, u)
		}
	}
	if !period.Apart(u) || !disjoint(u) || !slices.Equal(period.Union(u), u) {
		t.Fatalf("Union(%v) = %v, whose union is %v", before, u, period.Union(u))
	}
}

// checkMinus holds Minus of l against what it must be.
func checkMinus(t *testing.T, edges []int64, l spans, by span) {
	t.Helper()
	before := slices.Clone(l)
	var want spans
	for _, s := range l {
		want = append(want, without(edges, s, by)...)
	}
	m := period.Minus(l, by)
	if !slices.Equal(m, want) || !slices.Equal(l, before) {
		t.Fatalf("Minus(%v, %v) = %v, want %v", before, by, m, want)
	}
	if disjoint(l) && !disjoint(m) {
		t.Fatalf("Minus(%v, %v) = %v", before, by, m)
	}
	for _, p := range edges {
		if some(m, p) != (some(l, p) && !within(by, p)) {
			t.Fatalf("Minus(%v, %v) = %v: %d", before, by, m, p)
		}
	}
}

// chance is a sequence of numbers that is the same in every run.
type chance uint64

// below is the next number, from 0 to n - 1.
func (c *chance) below(n int) int {
	*c = *c*6364136223846793005 + 1442695040888963407
	return int(uint64(*c)>>33) % n
}

// list are that many spans between edges, a few of them not valid.
func (c *chance) list(edges []int64, n int) spans {
	var l spans
	for range n {
		from := c.below(len(edges))
		to := min(from+c.below(4), len(edges)-1)
		if c.below(8) == 0 {
			to = c.below(len(edges))
		}
		l = append(l, span{From: edges[from], To: edges[to]})
	}
	return l
}
