package sorter_test

import (
	"slices"
	"strings"
	"testing"

	"hindsight/api"
	"hindsight/sorter"
)

func TestP28_1Rows(t *testing.T) {
	a, b := text("a"), text("b")
	for _, c := range []struct {
		desc []bool
		keys rows
		want []int64
	}{
		{nil, nil, nil}, {[]bool{true}, nil, nil}, {nil, rows{row(2), row(1), row(2)}, []int64{1, 0, 2}}, {[]bool{true}, rows{row(1), row(2), row(1)}, []int64{1, 0, 2}}, {[]bool{false}, rows{row(3), row(2), row(1)}, []int64{2, 1, 0}}, {[]bool{true}, rows{row(1), row(2), row(3)}, []int64{2, 1, 0}},
		// Kinds of values.
		{nil, rows{{blob("")}, {text("")}, {number(9)}, {{}}}, []int64{3, 2, 1, 0}}, {[]bool{true}, rows{{{}}, {number(9)}, {text("")}, {blob("")}}, []int64{3, 2, 1, 0}}, {nil, rows{{text("9")}, {text("10")}, {number(10)}, {number(9)}}, []int64{3, 2, 1, 0}},
		// Keys that have no values, or fewer or more than desc.
		{nil, rows{{}, {}, {}}, []int64{0, 1, 2}}, {[]bool{true, true}, rows{{}, nil, {}}, []int64{0, 1, 2}}, {nil, rows{row(1), {}, row(0)}, []int64{1, 2, 0}}, {[]bool{true}, rows{row(1), {}, row(2)}, []int64{1, 2, 0}},
		{[]bool{true}, rows{row(1, 2), row(1, 1), row(2, 1), row(2, 2)}, []int64{2, 3, 1, 0}}, {[]bool{false, true}, rows{row(1, 2), row(1, 1), row(2, 1), row(2, 2)}, []int64{0, 1, 3, 2}}, {[]bool{true, false, true, true}, rows{row(1, 2), row(1, 1), row(2, 1), row(2, 2)}, []int64{2, 3, 1, 0}}, {[]bool{false, false, true}, rows{row(1, 1, 1), row(1, 1, 2), row(1, 1, 3, 0)}, []int64{2, 1, 0}},
		// A proper beginning goes ahead in both directions.
		{nil, rows{row(1, 0), row(1), row(0, 9)}, []int64{2, 1, 0}}, {[]bool{true, true}, rows{row(1, 0), row(1), row(0, 9)}, []int64{1, 0, 2}}, {[]bool{false, true}, rows{{a, b}, {a}, {a, {}}, {}}, []int64{3, 1, 0, 2}}, {[]bool{true}, rows{row(5, 5, 5), row(5, 5), row(5), {}}, []int64{3, 2, 1, 0}}, {[]bool{true}, rows{{{}}, {}}, []int64{1, 0}},
		// The first values that differ tell, not a longer key.
		{nil, rows{row(2), row(1, 9, 9), row(1, 9)}, []int64{2, 1, 0}}, {nil, rows{{b}, {text("aa")}, {a, b}}, []int64{2, 1, 0}},
	} {
		s := sorter.New(c.desc)
		var l, want rows
		for i := range c.keys {
			l = append(l, row(int64(i)))
		}
		for _, n := range c.want {
			want = append(want, row(n))
		}
		adds(t, s, c.keys, l)
		gives(t, s, want)
	}
}

// TestP28_1Order has all pairs of values, in both directions and orders, alone and behind another value.
func TestP28_1Order(t *testing.T) {
	for i, a := range ordered() {
		for k, b := range ordered() {
			for _, down := range []bool{false, true} {
				want := rows{row(1), row(2)}
				if i != k && (i > k) != down {
					want = rows{row(2), row(1)}
				}
				s := sorter.New([]bool{down})
				adds(t, s, rows{{a}, {b}}, rows{row(1), row(2)})
				gives(t, s, want)
				s = sorter.New([]bool{!down, down})
				adds(t, s, rows{{text("same"), a, b}, {text("same"), b, a}}, rows{row(1), row(2)})
				gives(t, s, want)
			}
		}
	}
}

// TestP28_1NotMade has sorters that New did not make.
func TestP28_1NotMade(t *testing.T) {
	first := sorter.New(nil)
	adds(t, first, rows{row(1)}, rows{row(2)})
	other := *first
	for i, s := range []*sorter.Sorter{nil, {}, new(sorter.Sorter), &other} {
		for _, key := range []values{nil, row(1), invalid()} {
			for _, r := range []values{nil, row(1), invalid()} {
				if err := s.Add(key, r); err != api.ErrNil {
					t.Errorf("%d: Add = %v", i, err)
				}
			}
		}
		if l := s.Rows(); s.Len() != 0 || len(l) != 0 {
			t.Errorf("%d: Len = %d and Rows = %v", i, s.Len(), l)
		}
	}
	gives(t, first, rows{row(2)})
}

func TestP28_1Form(t *testing.T) {
	s := sorter.New([]bool{true})
	fails := func(key, r values) {
		t.Helper()
		if err := s.Add(key, r); err != api.ErrForm {
			t.Errorf("Add(%v, %v) = %v", key, r, err)
		}
	}
	var want rows
	for i, v := range invalid() {
		for _, l := range []values{{v}, {v, number(1)}, {number(1), v}, {{}, text("a"), v, blob("a")}, append(slices.Repeat(values{{}}, 100), v)} {
			fails(l, row(1))
			fails(row(1), l)
			fails(l, nil)
			fails(nil, l)
			fails(l, l)
			gives(t, s, want)
		}
		adds(t, s, rows{row(int64(-i))}, rows{row(int64(i))})
		want = append(want, row(int64(i)))
	}
	// What stands behind the end of a key or of a row is not its own.
	bad := values{number(-100), {Kind: 9}}
	adds(t, s, rows{bad[:1]}, rows{bad[:1]})
	gives(t, s, append(want, bad[:1]))
	if !slices.Equal(bad, values{number(-100), {Kind: 9}}) {
		t.Errorf("Add writes behind the end: %v", bad)
	}
}

// TestP28_1Equal has many rows with few keys.
func TestP28_1Equal(t *testing.T) {
	for _, down := range []bool{false, true} {
		for _, different := range []int{1, 2, 7, 100} {
			s, next := sorter.New([]bool{down}), chance(different)
			parts := make([]rows, different)
			for i := range 2000 {
				k := next.below(different)
				adds(t, s, rows{row(int64(k))}, rows{row(int64(i), int64(k))})
				parts[k] = append(parts[k], row(int64(i), int64(k)))
			}
			if down {
				slices.Reverse(parts)
			}
			gives(t, s, slices.Concat(parts...))
		}
	}
}

// TestP28_1ByChance has sorters held against the definition, at each step; nothing that is handed in changes.
func TestP28_1ByChance(t *testing.T) {
	next := chance(281)
	for i := range 3000 {
		all := ordered()
		from := next.below(len(all))
		some := all[from:min(len(all), from+1+next.below(6))]
		if i%5 == 0 {
			some = all
		}
		desc := next.desc(4)
		descBefore := slices.Clone(desc)
		s := sorter.New(desc)
		var keys, l rows
		for range next.below(14) {
			keys, l = append(keys, next.row(4, some)), append(l, next.row(3, all))
			key, r := slices.Clone(keys[len(keys)-1]), slices.Clone(l[len(l)-1])
			adds(t, s, keys[len(keys)-1:], l[len(l)-1:])
			if !slices.Equal(key, keys[len(keys)-1]) || !slices.Equal(r, l[len(l)-1]) {
				t.Fatalf("Add changed %v or %v", key, r)
			}
			if s.Len() != len(l) {
				t.Fatalf("Len = %d, want %d", s.Len(), len(l))
			}
			if next.below(3) > 0 {
				continue
			}
			var want rows
			for _, at := range sorted(keys, desc) {
				want = append(want, l[at])
			}
			if got := s.Rows(); !equal(got, want) {
				t.Fatalf("Rows with %v of %v, %v = %v, want %v", desc, keys, l, got, want)
			}
		}
		if !slices.Equal(desc, descBefore) {
			t.Fatalf("the sorter changed %v", descBefore)
		}
	}
}

// TestP28_1Long has rows and keys that would be no rows of layer 3.
func TestP28_1Long(t *testing.T) {
	long := text(strings.Repeat("z", 10000))
	more := text(strings.Repeat("z", 10001))
	keys := rows{append(slices.Repeat(row(1), 40), more), append(slices.Repeat(row(1), 40), long), slices.Repeat(row(1), 40), {more}, {long}}
	s := sorter.New(nil)
	adds(t, s, keys, keys)
	gives(t, s, rows{keys[2], keys[1], keys[0], keys[4], keys[3]})
}

// TestP28_3 has rows by chance: each one is there as often as it was added, and keys, which are the rows, do not decrease.
func TestP28_3(t *testing.T) {
	next, all := chance(283), ordered()
	for range 200 {
		desc := next.desc(3)
		s := sorter.New(desc)
		var l rows
		for range next.below(300) {
			l = append(l, next.row(2, all[next.below(20):20+next.below(10)]))
		}
		adds(t, s, l, l)
		got := s.Rows()
		for i := 1; i < len(got); i++ {
			if less(got[i], got[i-1], desc) {
				t.Fatalf("%v is behind %v with %v", got[i], got[i-1], desc)
			}
		}
		for _, r := range l {
			at := numberOf(got, r)
			if at < 0 {
				t.Fatalf("%v is missing", r)
			}
			got = slices.Delete(got, at, at+1)
		}
		if len(got) > 0 {
			t.Fatalf("%v are too many", got)
		}
	}
}

// TestP28_1Memory changes what was handed in and what was handed out.
func TestP28_1Memory(t *testing.T) {
	desc, down := []bool{true, false}, []bool{true, true, false}
	s, other := sorter.New(desc), sorter.New(down[:1])
	key, r := row(1, 1), row(7, 8)
	adds(t, s, rows{key, row(1, 2), row(2, 0)}, rows{r, r, r})
	adds(t, other, rows{key, row(1, 2), row(2, 0)}, rows{row(1), row(2), row(3)})
	desc[0], desc[1], down[0], down[1] = false, true, false, true
	key[0], r[0] = number(9), number(1000)
	adds(t, s, rows{{}}, rows{r})
	want := rows{row(1000, 8), row(7, 8), row(7, 8), row(7, 8)}
	gives(t, s, want)
	gives(t, other, rows{row(3), row(1), row(2)})
	spoil(s.Rows())
	gives(t, s, want)
	first, second := s.Rows(), s.Rows()
	spoil(first)
	if !equal(second, want) {
		t.Errorf("Rows gives the same memory twice: %v", second)
	}
	// A row that is made longer does not reach into the next one.
	for i := range second {
		second[i] = append(second[i], text("more"))
	}
	for i, r := range second {
		if !slices.Equal(r, append(want[i][:2:2], text("more"))) {
			t.Errorf("the rows share memory: %v", second)
		}
	}
	gives(t, s, want)
	// A key that is the row as well.
	both := row(3)
	adds(t, s, rows{both}, rows{both})
	both[0] = number(-5)
	gives(t, s, slices.Insert(want, 1, row(3)))
}
