package period_test

import (
	"slices"
	"testing"

	"hindsight/period"
)

func TestP14_1Right(t *testing.T) {
	for _, s := range laid(edges()) {
		if is := period.Right(s); is != (s.From < s.To) {
			t.Errorf("Right(%v) = %v", s, is)
		}
	}
	for _, s := range (spans{{1, 2}, {-1, 0}, {least, least + 1}, {greatest - 1, greatest}, {least, greatest}}) {
		if !period.Right(s) {
			t.Errorf("%v is not valid", s)
		}
	}
	for _, s := range (spans{{}, {1, 1}, {2, 1}, {least, least}, {greatest, greatest}, {greatest, least}, {least + 1, least}}) {
		if period.Right(s) {
			t.Errorf("%v is valid", s)
		}
	}
}

func TestP14_1Has(t *testing.T) {
	for _, s := range laid(edges()) {
		for _, p := range points() {
			if has := period.Has(s, p); has != within(s, p) {
				t.Errorf("Has(%v, %d) = %v", s, p, has)
			}
		}
	}
	for _, c := range []struct {
		s    span
		at   int64
		want bool
	}{
		{span{3, 5}, 2, false}, {span{3, 5}, 3, true}, {span{3, 5}, 4, true}, {span{3, 5}, 5, false},
		{span{least, greatest}, least, true}, {span{least, greatest}, greatest - 1, true}, {span{least, greatest}, greatest, false},
		{span{5, 3}, 4, false}, {span{5, 3}, 3, false}, {span{5, 3}, 5, false}, {span{3, 3}, 3, false}, {span{greatest, least}, 0, false},
	} {
		if has := period.Has(c.s, c.at); has != c.want {
			t.Errorf("Has(%v, %d) = %v", c.s, c.at, has)
		}
	}
}

// TestP14_1Invalid holds that a span that is not valid contains nothing, for all functions.
func TestP14_1Invalid(t *testing.T) {
	for _, s := range laid(edges()) {
		if s.From < s.To {
			continue
		}
		for _, p := range points() {
			if period.Has(s, p) {
				t.Errorf("%v contains %d", s, p)
			}
		}
		for _, a := range laid(edges()) {
			if period.Overlaps(s, a) || period.Overlaps(a, s) || period.Contains(s, a) || period.Contains(a, s) || period.Meets(s, a) || period.Meets(a, s) {
				t.Errorf("%v and %v share something", s, a)
			}
		}
	}
}

func TestP14_1Pairs(t *testing.T) {
	for _, a := range laid(edges()) {
		for _, b := range laid(edges()) {
			both := a.From < a.To && b.From < b.To
			shared, all := false, true
			for _, p := range points() {
				shared = shared || within(a, p) && within(b, p)
				all = all && (within(a, p) || !within(b, p))
			}
			if is := period.Overlaps(a, b); is != shared {
				t.Errorf("Overlaps(%v, %v) = %v", a, b, is)
			}
			if is := period.Contains(a, b); is != (both && all) {
				t.Errorf("Contains(%v, %v) = %v", a, b, is)
			}
			if is := period.Meets(a, b); is != (both && a.To == b.From) {
				t.Errorf("Meets(%v, %v) = %v", a, b, is)
			}
		}
	}
}

func TestP14_1Known(t *testing.T) {
	for _, c := range []struct {
		a, b                      span
		overlaps, contains, meets bool
	}{
		{span{1, 5}, span{4, 9}, true, false, false}, {span{1, 5}, span{5, 9}, false, false, true}, {span{1, 5}, span{6, 9}, false, false, false},
		{span{5, 9}, span{1, 5}, false, false, false}, {span{1, 9}, span{3, 5}, true, true, false}, {span{3, 5}, span{1, 9}, true, false, false},
		{span{1, 5}, span{1, 5}, true, true, false}, {span{1, 5}, span{1, 4}, true, true, false}, {span{1, 5}, span{2, 5}, true, true, false},
		{span{1, 5}, span{0, 5}, true, false, false}, {span{1, 5}, span{1, 6}, true, false, false},
		{span{1, 5}, span{3, 3}, false, false, false}, {span{1, 5}, span{4, 2}, false, false, false}, {span{1, 5}, span{5, 5}, false, false, false},
		{span{5, 1}, span{5, 1}, false, false, false}, {span{5, 1}, span{2, 3}, false, false, false}, {span{1, 1}, span{1, 5}, false, false, false},
		{span{least, greatest}, span{least, greatest}, true, true, false}, {span{least, 0}, span{0, greatest}, false, false, true},
		{span{least, least + 1}, span{least + 1, greatest}, false, false, true}, {span{greatest - 1, greatest}, span{least, greatest}, true, false, false},
		{span{0, greatest}, span{greatest, greatest}, false, false, false}, {span{0, greatest}, span{greatest, least}, false, false, false},
	} {
		if is := period.Overlaps(c.a, c.b); is != c.overlaps {
			t.Errorf("Overlaps(%v, %v) = %v", c.a, c.b, is)
		}
		if is := period.Contains(c.a, c.b); is != c.contains {
			t.Errorf("Contains(%v, %v) = %v", c.a, c.b, is)
		}
		if is := period.Meets(c.a, c.b); is != c.meets {
			t.Errorf("Meets(%v, %v) = %v", c.a, c.b, is)
		}
	}
}

func TestP14_2Both(t *testing.T) {
	for _, a := range laid(edges()) {
		for _, b := range laid(edges()) {
			want := runs(edges(), func(p int64) bool { return within(a, p) && within(b, p) })
			both, is := period.Both(a, b)
			if is != (len(want) == 1) || is && both != want[0] || !is && both != (span{}) {
				t.Errorf("Both(%v, %v) = %v %v, want %v", a, b, both, is, want)
			}
		}
	}
}

func TestP14_2Cut(t *testing.T) {
	for _, s := range laid(edges()) {
		for _, by := range laid(edges()) {
			want := without(edges(), s, by)
			wantBoth, wantIs := period.Both(s, by)
			l, both, is := period.Cut(s, by)
			if !slices.Equal(l, want) || both != wantBoth || is != wantIs {
				t.Errorf("Cut(%v, %v) = %v %v %v, want %v %v %v", s, by, l, both, is, want, wantBoth, wantIs)
			}
		}
	}
}

func TestP14_2Known(t *testing.T) {
	for _, c := range []struct {
		s, by span
		l     spans
		both  span
		is    bool
	}{
		{span{1, 9}, span{3, 5}, spans{{1, 3}, {5, 9}}, span{3, 5}, true},
		{span{1, 9}, span{1, 5}, spans{{5, 9}}, span{1, 5}, true},
		{span{1, 9}, span{0, 5}, spans{{5, 9}}, span{1, 5}, true},
		{span{1, 9}, span{5, 9}, spans{{1, 5}}, span{5, 9}, true},
		{span{1, 9}, span{5, 12}, spans{{1, 5}}, span{5, 9}, true},
		{span{1, 9}, span{1, 9}, nil, span{1, 9}, true},
		{span{1, 9}, span{0, 12}, nil, span{1, 9}, true},
		{span{1, 9}, span{2, 8}, spans{{1, 2}, {8, 9}}, span{2, 8}, true},
		// What touches s, lies beside it, or is empty leaves it as it is.
		{span{1, 9}, span{9, 12}, spans{{1, 9}}, span{}, false},
		{span{1, 9}, span{-3, 1}, spans{{1, 9}}, span{}, false},
		{span{1, 9}, span{10, 12}, spans{{1, 9}}, span{}, false},
		{span{1, 9}, span{5, 5}, spans{{1, 9}}, span{}, false},
		{span{1, 9}, span{7, 3}, spans{{1, 9}}, span{}, false},
		// Of an empty span nothing is left.
		{span{9, 1}, span{3, 5}, nil, span{}, false},
		{span{9, 1}, span{5, 3}, nil, span{}, false},
		{span{4, 4}, span{3, 5}, nil, span{}, false},
		{span{4, 4}, span{4, 4}, nil, span{}, false},
		{span{}, span{}, nil, span{}, false},
		{span{least, greatest}, span{0, 1}, spans{{least, 0}, {1, greatest}}, span{0, 1}, true},
		{span{least, greatest}, span{least + 1, greatest - 1}, spans{{least, least + 1}, {greatest - 1, greatest}}, span{least + 1, greatest - 1}, true},
		{span{least, greatest}, span{least, greatest}, nil, span{least, greatest}, true},
		{span{least, greatest}, span{greatest, least}, spans{{least, greatest}}, span{}, false},
		{span{least, 0}, span{least, least + 1}, spans{{least + 1, 0}}, span{least, least + 1}, true},
		{span{0, greatest}, span{greatest - 1, greatest}, spans{{0, greatest - 1}}, span{greatest - 1, greatest}, true},
	} {
		l, both, is := period.Cut(c.s, c.by)
		if !slices.Equal(l, c.l) || both != c.both || is != c.is {
			t.Errorf("Cut(%v, %v) = %v %v %v, want %v %v %v", c.s, c.by, l, both, is, c.l, c.both, c.is)
		}
		if both, is := period.Both(c.s, c.by); both != c.both || is != c.is {
			t.Errorf("Both(%v, %v) = %v %v, want %v %v", c.s, c.by, both, is, c.both, c.is)
		}
	}
}

// TestP14_4 counts how often the spans of Cut and Both contain an integer.
func TestP14_4(t *testing.T) {
	for _, s := range laid(edges()) {
		for _, by := range laid(edges()) {
			l, both, _ := period.Cut(s, by)
			for _, p := range points() {
				count := 0
				for _, part := range append(slices.Clone(l), both) {
					if within(part, p) {
						count++
					}
				}
				if want := within(s, p); count > 1 || (count == 1) != want {
					t.Errorf("Cut(%v, %v) = %v and %v: %d", s, by, l, both, p)
				}
			}
			if len(l) > 2 || !disjoint(l) {
				t.Errorf("Cut(%v, %v) = %v", s, by, l)
			}
		}
	}
}

func TestP14_5Symmetric(t *testing.T) {
	for _, a := range laid(edges()) {
		for _, b := range laid(edges()) {
			if period.Overlaps(a, b) != period.Overlaps(b, a) {
				t.Errorf("Overlaps of %v and %v is not symmetric", a, b)
			}
		}
	}
}
