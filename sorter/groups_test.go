package sorter_test

import (
	"math"
	"slices"
	"testing"

	"hindsight/api"
	"hindsight/sorter"
)

func TestP28_2Groups(t *testing.T) {
	g := sorter.Group()
	if l := g.Rows(); len(l) != 0 {
		t.Errorf("Rows = %v", l)
	}
	puts(t, g, row(5, 6), 0, true)
	puts(t, g, row(5, 6), 0, false)
	puts(t, g, row(6, 5), 1, true)
	puts(t, g, nil, 2, true)
	puts(t, g, values{}, 2, false)
	puts(t, g, row(5, 6), 0, false)
	puts(t, g, row(5), 3, true)
	puts(t, g, row(6, 5), 1, false)
	puts(t, g, row(5), 3, false)
	for range 2 {
		if l := g.Rows(); !equal(l, rows{row(5, 6), row(6, 5), nil, row(5)}) {
			t.Errorf("Rows = %v", l)
		}
	}
	puts(t, sorter.Group(), row(5), 0, true)
	puts(t, g, values{text("a"), text("a")}, 4, true)
}

// TestP28_2Alike has rows that are different, though not much.
func TestP28_2Alike(t *testing.T) {
	l := alike()
	for i, r := range l {
		if numberOf(l[:i], r) >= 0 {
			t.Fatalf("the test itself has %v twice", r)
		}
	}
	for _, v := range ordered() {
		for _, more := range []values{{v}, {v, v}, {v, number(77)}, {number(77), v}, {v, text("77")}, {v, blob("77")}} {
			if numberOf(l, more) < 0 {
				l = append(l, more)
			}
		}
	}
	g := sorter.Group()
	for i, r := range l {
		puts(t, g, r, i, true)
	}
	for i, r := range slices.Backward(l) {
		puts(t, g, slices.Clone(r), i, false)
	}
	if got := g.Rows(); !equal(got, l) {
		t.Errorf("Rows = %.500v", got)
	}
	if got := sorter.Distinct(append(l[:len(l):len(l)], l...)); !equal(got, l) {
		t.Errorf("Distinct = %.500v", got)
	}
}

// TestP28_2NotMade has group tables that Group did not make.
func TestP28_2NotMade(t *testing.T) {
	first := sorter.Group()
	puts(t, first, row(1), 0, true)
	other := *first
	for i, g := range []*sorter.Groups{nil, {}, new(sorter.Groups), &other} {
		for _, r := range []values{nil, {}, row(1), invalid()} {
			for range 2 {
				if n, is, err := g.Put(r); n != 0 || is || err != api.ErrNil {
					t.Errorf("%d: Put(%v) = %d %v %v", i, r, n, is, err)
				}
			}
		}
		if l := g.Rows(); len(l) != 0 {
			t.Errorf("%d: Rows = %v", i, l)
		}
	}
	puts(t, first, row(2), 1, true)
}

func TestP28_2Form(t *testing.T) {
	g := sorter.Group()
	puts(t, g, row(1), 0, true)
	for i, v := range invalid() {
		for _, r := range []values{{v}, {v, number(1)}, {number(1), v}, {{}, text("a"), v, blob("a")}, append(slices.Repeat(values{{}}, 100), v)} {
			for range 2 {
				if n, is, err := g.Put(r); n != 0 || is || err != api.ErrForm {
					t.Errorf("Put(%v) = %d %v %v", r, n, is, err)
				}
			}
			if l := g.Rows(); len(l) != i+1 {
				t.Errorf("Rows = %v", l)
			}
		}
		puts(t, g, row(int64(i), 1), i+1, true)
		puts(t, g, row(1), 0, false)
	}
	bad := values{number(1), {Kind: 9}}
	puts(t, g, bad[:1], 0, false)
	puts(t, g, bad[:0], len(invalid())+1, true)
	if !slices.Equal(bad, values{number(1), {Kind: 9}}) {
		t.Errorf("Put writes behind the end: %v", bad)
	}
}

// TestP28_2ByChance has group tables and Distinct held against the definition; nothing that is handed in changes.
func TestP28_2ByChance(t *testing.T) {
	next, all := chance(282), ordered()
	for i := range 3000 {
		from := next.below(len(all))
		some := all[from:min(len(all), from+1+next.below(4))]
		if i%5 == 0 {
			some = all
		}
		g := sorter.Group()
		var l rows
		for range next.below(30) {
			r := next.row(3, some)
			before := slices.Clone(r)
			want := numberOf(distinct(l), r)
			if want < 0 {
				puts(t, g, r, len(distinct(l)), true)
			} else {
				puts(t, g, r, want, false)
			}
			if l = append(l, r); !slices.Equal(r, before) {
				t.Fatalf("Put changed %v", before)
			}
		}
		want, before := distinct(l), copied(l)
		if got := g.Rows(); !equal(got, want) {
			t.Fatalf("Rows of %v = %v, want %v", l, got, want)
		}
		if got := sorter.Distinct(l); !equal(got, want) || !equal(l, before) {
			t.Fatalf("Distinct of %v = %v, want %v", before, got, want)
		}
	}
}

// TestP28_2Many has many rows, each several times.
func TestP28_2Many(t *testing.T) {
	g := sorter.Group()
	for round := range 3 {
		for i := range 20000 {
			puts(t, g, values{number(int64(i)), text("x")}, i, round == 0)
		}
	}
	if l := g.Rows(); len(l) != 20000 || l[19999][0] != number(19999) {
		t.Errorf("%d rows", len(l))
	}
}

// TestP28_2Distinct has what Distinct returns for rows that a group table does not take, too.
func TestP28_2Distinct(t *testing.T) {
	for _, c := range []struct{ l, want rows }{
		{nil, nil}, {rows{}, nil}, {rows{nil}, rows{nil}}, {rows{nil, {}, nil}, rows{nil}}, {rows{row(1), row(2), row(1)}, rows{row(1), row(2)}}, {rows{row(2), row(1), row(1), row(2)}, rows{row(2), row(1)}}, {rows{row(1), row(1), row(1)}, rows{row(1)}},
		{rows{{text("1")}, row(1), {blob("1")}, {{}}, {}, {text("1")}, row(1)}, rows{{text("1")}, row(1), {blob("1")}, {{}}, {}}}, {rows{row(1), row(1, 1), row(1), row(1, 1, 1), row(1, 1)}, rows{row(1), row(1, 1), row(1, 1, 1)}},
	} {
		if got := sorter.Distinct(c.l); !equal(got, c.want) {
			t.Errorf("Distinct of %v = %v, want %v", c.l, got, c.want)
		}
	}
	var l rows
	for _, v := range invalid() {
		l = append(l, values{v}, values{v, v}, values{number(1), v})
	}
	if got := sorter.Distinct(append(l[:len(l):len(l)], l...)); !equal(got, l) {
		t.Errorf("Distinct of rows that are not valid = %v", got)
	}
}

func TestP28_2Limit(t *testing.T) {
	l := rows{row(1), nil, row(2, 3), row(1), invalid()}
	for most, want := range map[int64]int{math.MinInt64: 0, -5: 0, -1: 0, 0: 0, 1: 1, 2: 2, 4: 4, 5: 5, 6: 5, 7: 5, 1 << 31: 5, 1 << 32: 5, 1<<32 + 1: 5, math.MaxInt64 - 1: 5, math.MaxInt64: 5, math.MinInt64 + 1: 0, -1 << 32: 0} {
		if got := sorter.Limit(l, most); !equal(got, l[:want]) {
			t.Errorf("Limit of %d = %v, want %v", most, got, l[:want])
		}
		for _, none := range []rows{nil, {}} {
			if got := sorter.Limit(none, most); len(got) != 0 {
				t.Errorf("Limit of no rows and %d = %v", most, got)
			}
		}
		// The rows behind the end are not looked at.
		if got := sorter.Limit(l[:2], most); !equal(got, l[:min(want, 2)]) {
			t.Errorf("Limit of two rows and %d = %v", most, got)
		}
	}
}

// TestP28_4 has a Distinct of a Distinct.
func TestP28_4(t *testing.T) {
	next, all := chance(284), ordered()
	for range 2000 {
		some := all[:1+next.below(len(all))]
		var l rows
		for range next.below(20) {
			l = append(l, next.row(2, some))
			if next.below(10) == 0 {
				l = append(l, next.row(2, invalid()))
			}
		}
		once := sorter.Distinct(l)
		if twice := sorter.Distinct(once); !equal(once, twice) || len(once) > len(l) {
			t.Fatalf("Distinct of %v = %v", once, twice)
		}
	}
}

// TestP28_2Memory changes what was handed in and what was handed out.
func TestP28_2Memory(t *testing.T) {
	g, r := sorter.Group(), row(1, 2)
	puts(t, g, r, 0, true)
	r[0] = number(9)
	puts(t, g, r, 1, true)
	puts(t, g, row(1, 2), 0, false)
	want := rows{row(1, 2), row(9, 2)}
	spoil(g.Rows())
	if l := g.Rows(); !equal(l, want) {
		t.Errorf("Rows = %v", l)
	}
	first, second := g.Rows(), g.Rows()
	spoil(first)
	puts(t, g, row(3), 2, true)
	if !equal(second, want) || !equal(g.Rows(), append(want, row(3))) {
		t.Errorf("Rows gives the same memory twice: %v and %v", second, g.Rows())
	}
	for name, call := range map[string]func(l rows) rows{
		"Distinct": sorter.Distinct, "Limit of all": func(l rows) rows { return sorter.Limit(l, 4) }, "Limit of more": func(l rows) rows { return sorter.Limit(l, math.MaxInt64) },
	} {
		l := rows{row(1, 2), row(3), {}, row(4, 5, 6), {{Kind: 9}}}[:4]
		before := copied(l)
		got := call(l)
		if !equal(got, before) {
			t.Errorf("%s = %v", name, got)
		}
		for i := range got {
			got[i] = append(got[i], text("more"))
		}
		if !equal(l, before) || !slices.Equal(got[1], values{number(3), text("more")}) || !slices.Equal(l[:5][4], values{{Kind: 9}}) {
			t.Errorf("%s shares memory: %v and %v", name, l, got)
		}
		spoil(got)
		if !equal(l, before) {
			t.Errorf("%s shares memory with its argument: %v", name, l)
		}
		got = call(l)
		spoil(l)
		if !equal(got, before) {
			t.Errorf("%s shares memory with its argument: %v", name, got)
		}
	}
	// Two rows of one memory are two rows.
	l := sorter.Limit(rows{r, r}, 2)
	l[0][0] = number(100)
	if l[1][0] != number(9) || r[0] != number(9) {
		t.Errorf("the rows share memory: %v and %v", l, r)
	}
}
