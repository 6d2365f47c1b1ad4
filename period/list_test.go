package period_test

import (
	"slices"
	"testing"

	"hindsight/period"
)

func TestP14_3UnionKnown(t *testing.T) {
	for _, c := range []struct{ l, want spans }{
		{nil, nil}, {spans{}, nil}, {spans{{}}, nil}, {spans{{5, 5}, {9, 1}}, nil},
		{spans{{1, 3}}, spans{{1, 3}}},
		{spans{{3, 5}, {1, 3}}, spans{{1, 5}}},
		{spans{{1, 3}, {4, 5}}, spans{{1, 3}, {4, 5}}},
		{spans{{4, 5}, {1, 3}}, spans{{1, 3}, {4, 5}}},
		{spans{{1, 3}, {1, 3}}, spans{{1, 3}}},
		{spans{{1, 9}, {3, 5}}, spans{{1, 9}}},
		{spans{{1, 9}, {3, 5}, {9, 10}}, spans{{1, 10}}},
		{spans{{1, 9}, {3, 5}, {7, 12}, {13, 14}}, spans{{1, 12}, {13, 14}}},
		{spans{{1, 2}, {1, 9}, {1, 5}}, spans{{1, 9}}},
		{spans{{1, 2}, {3, 4}, {2, 3}}, spans{{1, 4}}},
		{spans{{7, 8}, {5, 6}, {3, 4}, {1, 2}}, spans{{1, 2}, {3, 4}, {5, 6}, {7, 8}}},
		// An empty span joins nothing, wherever it lies.
		{spans{{1, 3}, {3, 3}, {4, 5}}, spans{{1, 3}, {4, 5}}},
		{spans{{1, 3}, {9, 2}, {4, 5}}, spans{{1, 3}, {4, 5}}},
		{spans{{1, 3}, {2, 0}, {3, 1}}, spans{{1, 3}}},
		{spans{{4, 4}, {0, 0}, {1, 3}}, spans{{1, 3}}},
		{spans{{least, 0}, {0, greatest}}, spans{{least, greatest}}},
		{spans{{greatest - 1, greatest}, {least, least + 1}}, spans{{least, least + 1}, {greatest - 1, greatest}}},
		{spans{{least, greatest}, {greatest, least}, {greatest, greatest}, {least, least}}, spans{{least, greatest}}},
		{spans{{least + 1, greatest - 1}, {least, least + 1}}, spans{{least, greatest - 1}}},
	} {
		before := slices.Clone(c.l)
		if u := period.Union(c.l); !slices.Equal(u, c.want) || !slices.Equal(c.l, before) {
			t.Errorf("Union(%v) = %v, want %v", before, u, c.want)
		}
	}
}

// TestP14_3All has all lists of at most three spans between some edges.
func TestP14_3All(t *testing.T) {
	few := []int64{least, 0, 1, 2, greatest}
	all := laid(few)
	lists := []spans{nil}
	for from, size := 0, 0; size < 3; size++ {
		end := len(lists)
		for _, l := range lists[from:end] {
			for _, s := range all {
				lists = append(lists, append(slices.Clone(l), s))
			}
		}
		from = end
	}
	for i, l := range lists {
		checkUnion(t, few, l)
		checkMinus(t, few, l, all[i%len(all)])
		if is := period.Apart(l); is != disjoint(l) {
			t.Fatalf("Apart(%v) = %v", l, is)
		}
	}
	for _, l := range lists[:1+25+25*25] {
		for _, by := range all {
			checkMinus(t, few, l, by)
		}
	}
}

func TestP14_3Long(t *testing.T) {
	next := chance(1)
	var many []int64
	for i := range int64(40) {
		many = append(many, 3*i-50)
	}
	for i := range 4000 {
		// Edges near one another, or far from one another.
		e := many
		if i%2 == 0 {
			e = edges()
		}
		l := next.list(e, next.below(20))
		checkUnion(t, e, l)
		checkMinus(t, e, l, next.list(e, 1)[0])
		checkMinus(t, e, period.Union(l), next.list(e, 1)[0])
		if is := period.Apart(l); is != disjoint(l) {
			t.Fatalf("Apart(%v) = %v", l, is)
		}
	}
}

// TestP14_3Order holds that Union is the same for every order of the spans.
func TestP14_3Order(t *testing.T) {
	next := chance(2)
	for range 500 {
		l := next.list(edges(), 2+next.below(30))
		want := period.Union(l)
		for range 5 {
			i, j := next.below(len(l)), next.below(len(l))
			l[i], l[j] = l[j], l[i]
			if u := period.Union(l); !slices.Equal(u, want) {
				t.Fatalf("Union(%v) = %v, want %v", l, u, want)
			}
		}
	}
}

func TestP14_3Apart(t *testing.T) {
	for _, c := range []struct {
		l    spans
		want bool
	}{
		{nil, true}, {spans{}, true}, {spans{{1, 3}}, true}, {spans{{1, 3}, {3, 5}}, true}, {spans{{1, 3}, {4, 5}}, true},
		{spans{{1, 2}, {2, 3}, {3, 4}, {9, 10}}, true}, {spans{{least, least + 1}, {least + 1, greatest - 1}, {greatest - 1, greatest}}, true},

		{spans{{}}, false}, {spans{{3, 1}}, false}, {spans{{3, 3}}, false}, {spans{{1, 3}, {3, 3}}, false}, {spans{{1, 1}, {1, 3}}, false},
		{spans{{1, 3}, {5, 4}, {6, 7}}, false}, {spans{{1, 3}, {4, 5}, {9, 6}}, false},
		{spans{{3, 5}, {1, 3}}, false}, {spans{{4, 5}, {1, 3}}, false}, {spans{{1, 3}, {1, 3}}, false}, {spans{{1, 3}, {2, 4}}, false},
		{spans{{1, 9}, {3, 5}}, false}, {spans{{1, 9}, {3, 5}, {9, 10}}, false}, {spans{{1, 2}, {4, 5}, {2, 3}}, false},
		{spans{{least, greatest}, {greatest, greatest}}, false}, {spans{{least, greatest}, {greatest, least}}, false},
		{spans{{least, greatest}, {greatest - 1, greatest}}, false}, {spans{{greatest - 1, greatest}, {least, least + 1}}, false},
	} {
		if is := period.Apart(c.l); is != c.want {
			t.Errorf("Apart(%v) = %v", c.l, is)
		}
	}
}

func TestP14_3MinusKnown(t *testing.T) {
	for _, c := range []struct {
		l    spans
		by   span
		want spans
	}{
		{nil, span{1, 9}, nil}, {nil, span{}, nil}, {spans{}, span{1, 9}, nil},
		{spans{{1, 9}}, span{3, 5}, spans{{1, 3}, {5, 9}}},
		{spans{{1, 4}, {4, 9}}, span{3, 5}, spans{{1, 3}, {5, 9}}},
		{spans{{1, 4}, {5, 9}}, span{4, 5}, spans{{1, 4}, {5, 9}}},
		{spans{{1, 4}, {5, 9}}, span{1, 9}, nil},
		// Neither order nor spans that share integers or meet are changed.
		{spans{{5, 9}, {1, 4}}, span{2, 6}, spans{{6, 9}, {1, 2}}},
		{spans{{1, 9}, {1, 9}}, span{3, 5}, spans{{1, 3}, {5, 9}, {1, 3}, {5, 9}}},
		{spans{{1, 3}, {3, 5}}, span{7, 9}, spans{{1, 3}, {3, 5}}},
		{spans{{1, 3}, {2, 5}}, span{5, 1}, spans{{1, 3}, {2, 5}}},
		// What is not valid contains nothing.
		{spans{{9, 1}, {3, 3}, {1, 9}}, span{5, 5}, spans{{1, 9}}},
		{spans{{9, 1}, {3, 3}}, span{1, 9}, nil},
		{spans{{least, greatest}}, span{0, 1}, spans{{least, 0}, {1, greatest}}},
		{spans{{least, 0}, {0, greatest}}, span{least, greatest}, nil},
		{spans{{least, 0}, {0, greatest}}, span{least + 1, greatest - 1}, spans{{least, least + 1}, {greatest - 1, greatest}}},
		{spans{{least, 0}, {0, greatest}}, span{greatest, least}, spans{{least, 0}, {0, greatest}}},
	} {
		before := slices.Clone(c.l)
		if m := period.Minus(c.l, c.by); !slices.Equal(m, c.want) || !slices.Equal(c.l, before) {
			t.Errorf("Minus(%v, %v) = %v, want %v", before, c.by, m, c.want)
		}
	}
}

// TestP14_3Memory holds that lists share no memory with the arguments, and nothing beyond the length of these is used.
func TestP14_3Memory(t *testing.T) {
	full := spans{{1, 3}, {5, 7}, {9, 11}, {0, 100}, {2, 6}}
	rest := span{20, 30}
	for what, do := range map[string]func(l spans) spans{
		"Union":              period.Union,
		"Minus of something": func(l spans) spans { return period.Minus(l, span{10, 20}) },
		"Minus of nothing":   func(l spans) spans { return period.Minus(l, span{}) },
		"Cut of something":   func(l spans) spans { out, _, _ := period.Cut(l[0], span{2, 9}); return out },
		"Cut of nothing":     func(l spans) spans { out, _, _ := period.Cut(l[0], rest); return out },
	} {
		for n := range 3 {
			all := slices.Clone(full)
			l := all[:n+1]
			out := do(l)
			if !slices.Equal(all, full) {
				t.Errorf("%s of %d spans has made the argument %v", what, n+1, all)
			}
			want := slices.Clone(out)
			clear(all)
			if !slices.Equal(out, want) {
				t.Errorf("%s of %d spans shares memory with the argument", what, n+1)
			}
			again := do(full[:n+1])
			clear(out[:cap(out)])
			if !slices.Equal(again, want) || !slices.Equal(do(full[:n+1]), want) {
				t.Errorf("%s of %d spans shares memory with another result", what, n+1)
			}
			if full[3] != (span{0, 100}) {
				t.Errorf("%s of %d spans has written beyond the length", what, n+1)
			}
		}
	}
}

// TestP14_3Great has lists for which steps in the square of their length would not end in time.
func TestP14_3Great(t *testing.T) {
	const n = 200000
	var chain, nest, gaps spans
	for i := range int64(n) {
		chain = append(chain, span{n - i, n - i + 1})
		nest = append(nest, span{i, 2*n - i})
		gaps = append(gaps, span{i * 2, i*2 + 1})
	}
	if u := period.Union(chain); !slices.Equal(u, spans{{1, n + 1}}) {
		t.Errorf("Union of a chain has %d spans", len(u))
	}
	if u := period.Union(nest); !slices.Equal(u, spans{{0, 2 * n}}) {
		t.Errorf("Union of a nest has %d spans", len(u))
	}
	if u := period.Union(gaps); !slices.Equal(u, gaps) || !period.Apart(u) {
		t.Errorf("Union of spans with gaps has %d spans", len(u))
	}
	if m := period.Minus(nest, span{n - 1, n + 1}); len(m) != 2*n-2 {
		t.Errorf("Minus has %d spans", len(m))
	}
}
