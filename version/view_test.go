package version_test

import (
	"math"
	"testing"

	"hindsight/api"
	"hindsight/version"
)

// TestP17_1Sees holds each view of small stamps against the stamps that it has, for each version.
func TestP17_1Sees(t *testing.T) {
	const last = 6
	for from := int64(0); from < last; from++ {
		for _, to := range []int64{from + 1, from + 2, from + 3, version.Now} {
			r := row{From: from, To: to}
			for a := int64(-1); a <= last; a++ {
				for b := int64(-1); b <= last; b++ {
					in := false
					for stamp := a; stamp < b; stamp++ {
						in = in || isAt(r, stamp)
					}
					want := []bool{to == version.Now, isAt(r, a), in, in || b >= a && isAt(r, b), true}
					for kind := range want {
						if is := version.Sees(view{Kind: kind, A: a, B: b}, r); is != want[kind] {
							t.Errorf("Sees(%d %d %d, %v) = %v", kind, a, b, r, is)
						}
					}
				}
			}
		}
	}
}

func TestP17_1SeesEdges(t *testing.T) {
	const least, most = math.MinInt64, math.MaxInt64
	for _, c := range []struct {
		v        view
		from, to int64
		want     bool
	}{
		{view{Kind: 0}, least, version.Now, true}, {view{Kind: 0}, most, version.Now, true}, {view{Kind: 0}, least, most - 1, false}, {view{Kind: 0, A: 5, B: 9}, 7, 8, false}, {view{Kind: 0, A: 9, B: 5}, 10, version.Now, true},
		{view{Kind: 1, A: least}, least, least + 1, true}, {view{Kind: 1, A: least}, least + 1, version.Now, false}, {view{Kind: 1, A: most}, 5, version.Now, true}, {view{Kind: 1, A: most}, most, version.Now, true},
		{view{Kind: 1, A: most}, 5, most - 1, false}, {view{Kind: 1, A: most - 1}, 5, most - 1, false}, {view{Kind: 1, A: most - 2}, 5, most - 1, true}, {view{Kind: 1, A: 5, B: 4}, 5, 6, true}, {view{Kind: 1, A: 6}, 5, 6, false}, {view{Kind: 1, A: 4}, 5, 6, false},
		{view{Kind: 2, A: 5, B: 5}, 5, 6, false}, {view{Kind: 2, A: 6, B: 5}, 0, 9, false}, {view{Kind: 2, A: 4, B: 5}, 5, 6, false}, {view{Kind: 2, A: 4, B: 6}, 5, 6, true}, {view{Kind: 2, A: 6, B: 7}, 5, 6, false}, {view{Kind: 2, A: 5, B: 6}, 5, 6, true},
		{view{Kind: 2, A: most - 1, B: most}, 5, version.Now, true}, {view{Kind: 2, A: most, B: most}, 5, version.Now, false}, {view{Kind: 2, A: least, B: most}, most, version.Now, false}, {view{Kind: 2, A: least, B: most}, most - 1, version.Now, true}, {view{Kind: 2, A: most, B: least}, least, version.Now, false},
		{view{Kind: 3, A: 5, B: 5}, 5, 6, true}, {view{Kind: 3, A: 6, B: 5}, 0, 9, false}, {view{Kind: 3, A: 4, B: 5}, 5, 6, true}, {view{Kind: 3, A: 4, B: 4}, 5, 6, false}, {view{Kind: 3, A: 6, B: 7}, 5, 6, false},
		{view{Kind: 3, A: most, B: most}, 5, version.Now, true}, {view{Kind: 3, A: most, B: most}, most, version.Now, true}, {view{Kind: 3, A: least, B: least}, least, least + 1, true}, {view{Kind: 3, A: most, B: least}, least, version.Now, false}, {view{Kind: 3, A: most, B: most}, 5, most - 1, false},
		{view{Kind: 4}, least, version.Now, true}, {view{Kind: 4, A: 9, B: 5}, 5, 6, true}, {view{Kind: 4}, 9, 9, true}, {view{Kind: 4}, 9, 5, true},
		{view{Kind: 5}, least, version.Now, false}, {view{Kind: -1}, 5, version.Now, false}, {view{Kind: math.MaxInt}, 5, version.Now, false}, {view{Kind: math.MinInt}, 5, version.Now, false}, {view{Kind: 256}, 5, version.Now, false}, {view{Kind: 1 << 32}, 5, version.Now, false},
	} {
		for _, l := range []values{nil, pair(1, "x")} {
			if is := version.Sees(c.v, row{Values: l, From: c.from, To: c.to}); is != c.want {
				t.Errorf("Sees(%v, %d %d) = %v", c.v, c.from, c.to, is)
			}
		}
	}
}

// noKinds are kinds of no view.
func noKinds() []int { return []int{-1, 5, 6, 256, 257, 1 << 32, 1<<32 + 1, math.MinInt, math.MaxInt} }

func TestP17_3May(t *testing.T) {
	const least, most = math.MinInt64, math.MaxInt64
	p := begun(t, disk(t))
	x, y := entry(t, p, plain()), entry(t, p, kept())
	for _, mark := range []int64{least, least + 1, -1, 0, 7, most - 1, most} {
		x.Mark, y.Mark = mark, mark
		s, h := store(t, p, x), store(t, p, y)
		for _, a := range []int64{least, least + 1, -2, -1, 0, 6, 7, 8, most - 1, most} {
			for _, b := range []int64{a, least, 0, most} {
				for _, kind := range noKinds() {
					wants(t, "May", s.May(view{kind, a, b}), api.ErrArg)
					wants(t, "May", h.May(view{kind, a, b}), api.ErrArg)
				}
				wants(t, "May", s.May(view{0, a, b}), api.OK)
				wants(t, "May", h.May(view{0, a, b}), api.OK)
				wants(t, "May", s.May(view{4, a, b}), api.ErrPeriod)
				all, some := api.OK, api.OK
				if mark > least {
					all = api.ErrPruned
				}
				if a < mark {
					some = api.ErrPruned
				}
				wants(t, "May", h.May(view{4, a, b}), all)
				for kind := 1; kind <= 3; kind++ {
					wants(t, "May", s.May(view{kind, a, b}), api.ErrPeriod)
					wants(t, "May", h.May(view{kind, a, b}), some)
				}
			}
		}
	}
}

// TestP17_3ScanErrors has Scan return the errors of May.
func TestP17_3ScanErrors(t *testing.T) {
	p := begun(t, disk(t))
	x, y := entry(t, p, plain()), entry(t, p, kept())
	y.Mark = 7
	s, h := store(t, p, x), store(t, p, y)
	must(t, "Insert", s.Insert(pair(1, "x"), 5))
	must(t, "Insert", h.Insert(pair(1, "x"), 5))
	refused := func(s *version.Store, v view, want api.Errno) {
		t.Helper()
		if l, code := s.Scan(v); len(l) != 0 || code != want {
			t.Errorf("Scan(%v) = %v %v, want %v", v, l, code, want)
		}
	}
	for _, kind := range noKinds() {
		refused(s, view{Kind: kind, A: 9, B: 9}, api.ErrArg)
		refused(h, view{Kind: kind, A: 9, B: 9}, api.ErrArg)
	}
	for kind := 1; kind <= 4; kind++ {
		refused(s, view{Kind: kind, A: 9, B: 9}, api.ErrPeriod)
		refused(h, view{Kind: kind, A: 6, B: 9}, api.ErrPruned)
		// Also a view that would include nothing.
		refused(h, view{Kind: kind, A: 6, B: 5}, api.ErrPruned)
	}
	refused(h, view{Kind: 4, A: 9}, api.ErrPruned)
	want := row{pair(1, "x"), 5, version.Now}
	has(t, s, view{}, want)
	has(t, h, view{}, want)
	has(t, h, view{Kind: 1, A: 7}, want)
	has(t, h, view{Kind: 2, A: 7, B: 8}, want)
	has(t, h, view{Kind: 2, A: 7, B: 7})
	has(t, h, view{Kind: 3, A: 7, B: 7}, want)
	has(t, h, view{Kind: 3, A: 8, B: 7})
}

// TestP17_3Order has keys that begin with one another, and several past versions of each: the current ones come first, then the past ones by key and To.
func TestP17_3Order(t *testing.T) {
	_, _, s := fresh(t, booked())
	m := model{table: booked()}
	names := []string{"b", "a", "\x00", "", "ab", "a\x00", "a\x00\xff", "\xff", "b\x01"}
	for _, stamps := range [][]int64{{-300, -299, -1}, {0, 1, 2}, {255, 256, 1 << 40}} {
		for _, x := range names {
			l := values{number(7), text(x), blob(x), number(stamps[0] + 1000)}
			key := keyOf(t, booked(), l)
			must(t, "Insert", s.Insert(l, stamps[0]))
			must(t, "insert", m.insert(l, stamps[0]))
			must(t, "Replace", s.Replace(key, l, stamps[1]))
			must(t, "replace", m.replace(key, l, stamps[1]))
			if x != "a" || stamps[0] < 200 {
				must(t, "Delete", s.Delete(key, stamps[2]))
				must(t, "remove", m.remove(key, stamps[2]))
			}
		}
	}
	must(t, "Insert", s.Insert(values{number(7), text("c"), blob(""), number(8)}, 3))
	must(t, "insert", m.insert(values{number(7), text("c"), blob(""), number(8)}, 3))
	check(t, s, m, -2, 4)
	check(t, s, m, -301, -298)
	check(t, s, m, 254, 257)
	all, _ := s.Scan(view{Kind: 4})
	if len(all) != 2+9*6-1 {
		t.Errorf("%d versions", len(all))
	}
}
