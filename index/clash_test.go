package index_test

import (
	"bytes"
	"math"
	"testing"

	"hindsight/api"
	"hindsight/index"
	"hindsight/schema"
	"hindsight/version"
)

// booked is a table whose rows with the same key may not overlap.
func booked() schema.Table {
	return schema.Table{
		Name:    "booked",
		Columns: columns{{Name: "x", Kind: api.Text, NotNull: true}, {Name: "since", Kind: api.Int, NotNull: true}, {Name: "until", Kind: api.Int, NotNull: true}, {Name: "note", Kind: api.Text}},
		Key:     []int{0}, Period: "stay", From: 1, To: 2, Apart: true, Versioned: true,
	}
}

// stay is a row of booked.
func stay(x string, from, to int64) values { return values{text(x), number(from), number(to), null} }

// clashes holds Clash against what it must return.
func clashes(t *testing.T, s *version.Store, l values, but []byte, want bool) {
	t.Helper()
	if is, code := index.Clash(s, booked(), l, but); is != want || code != api.OK {
		t.Errorf("Clash(%v, %q) = %v %v, want %v", l, but, is, code, want)
	}
}

// share reports whether two rows have the same key and share a point.
func share(a, b values) bool {
	for at := int64(-9); at <= 9; at++ {
		if a[0] == b[0] && a[1].Int <= at && at < a[2].Int && b[1].Int <= at && at < b[2].Int {
			return true
		}
	}
	return false
}

// TestP18_3 holds all short periods against the rows of a store, with each key that does not count.
func TestP18_3(t *testing.T) {
	p := begun(t, disk(t))
	s := store(t, p, booked())
	rows := []values{stay("a", 0, 1), stay("a", 2, 4), stay("a", 5, 9), stay("b", 1, 3), stay("", 0, 2), stay("a\x00", 3, 4), stay("ab", -3, 9), stay("c", -9, 9)}
	buts := [][]byte{nil, {}, {16}, bytes.Repeat([]byte{255}, 200)}
	for _, l := range rows {
		must(t, "Insert", s.Insert(l, 5))
		k := []byte(keyOf(t, booked(), l))
		buts = append(buts, k, k[:len(k)-1], append(bytes.Clone(k), 0))
	}
	some := 0
	for _, x := range []string{"a", "b", "", "a\x00", "ab", "c", "d", "\xff"} {
		for from := int64(-4); from < 10; from++ {
			for to := from + 1; to < 11; to++ {
				l := stay(x, from, to)
				for _, but := range buts {
					want := false
					for _, r := range rows {
						want = want || share(l, r) && keyOf(t, booked(), r) != string(but)
					}
					if want {
						some++
					}
					clashes(t, s, l, but, want)
				}
			}
		}
	}
	if some < 1000 {
		t.Errorf("%d clash", some)
	}
}

func TestP18_3Edges(t *testing.T) {
	const least, most = math.MinInt64, math.MaxInt64
	p := begun(t, disk(t))
	s := store(t, p, booked())
	must(t, "Insert", s.Insert(stay("a", least, least+2), 5))
	must(t, "Insert", s.Insert(stay("a", most-2, most), 5))
	for _, c := range []struct {
		from, to int64
		want     bool
	}{
		{least, least + 1, true}, {least + 1, least + 2, true}, {least + 2, least + 3, false}, {least, most, true}, {least + 2, most - 2, false}, {least + 2, most - 1, true}, {least + 1, most - 2, true},
		{most - 3, most - 2, false}, {most - 3, most - 1, true}, {most - 1, most, true}, {most - 2, most - 1, true}, {-1, 1, false},
	} {
		clashes(t, s, stay("a", c.from, c.to), nil, c.want)
		clashes(t, s, stay("b", c.from, c.to), nil, false)
	}
}

// TestP18_3Past has rows that clashed: only current versions do.
func TestP18_3Past(t *testing.T) {
	p := begun(t, disk(t))
	s := store(t, p, booked())
	must(t, "Insert", s.Insert(stay("a", 1, 9), 5))
	k := []byte(keyOf(t, booked(), stay("a", 1, 9)))
	clashes(t, s, stay("a", 5, 7), nil, true)
	must(t, "Replace", s.Replace(k, stay("a", 1, 4), 6))
	clashes(t, s, stay("a", 5, 7), nil, false)
	clashes(t, s, stay("a", 3, 7), nil, true)
	clashes(t, s, stay("a", 3, 7), k, false)
	must(t, "Delete", s.Delete(k, 7))
	clashes(t, s, stay("a", 1, 9), nil, false)
}

func TestP18_3Errors(t *testing.T) {
	d := disk(t)
	p := begun(t, d)
	s := store(t, p, booked())
	must(t, "Insert", s.Insert(stay("a", 1, 9), 5))
	must(t, "Commit", p.Commit())
	refused := func(s *version.Store, x schema.Table, l values, want api.Errno) {
		t.Helper()
		for _, but := range [][]byte{nil, []byte(keyOf(t, booked(), stay("a", 1, 9)))} {
			if is, code := index.Clash(s, x, l, but); is || code != want {
				t.Errorf("Clash(%v) = %v %v, want %v", l, is, code, want)
			}
		}
	}
	loose := booked()
	loose.Apart = false
	wrong := booked()
	wrong.Key = []int{1}
	for _, s := range []*version.Store{s, nil, {}} {
		for _, l := range []values{nil, stay("a", 5, 5), stay("a", 1, 9)} {
			refused(s, schema.Table{}, l, api.ErrForm)
			refused(s, wrong, l, api.ErrForm)
		}
		for _, x := range []schema.Table{booked(), loose} {
			refused(s, x, nil, api.ErrArg)
			refused(s, x, make(values, 5), api.ErrArg)
			refused(s, x, values{{Kind: 9}, null, null, null}, api.ErrForm)
			refused(s, x, values{text("a"), null, number(1), null}, api.ErrNull)
			refused(s, x, values{text("a"), text("b"), number(1), null}, api.ErrType)
			refused(s, x, stay("a", 5, 5), api.ErrEmpty)
			refused(s, x, stay("a", 6, 5), api.ErrEmpty)
			refused(s, x, stay(string(make([]byte, 99)), 5, 6), api.ErrLong)
		}
		// The store is not read for a table that is not Apart.
		refused(s, loose, stay("a", 1, 9), api.OK)
	}
	for _, s := range []*version.Store{nil, {}} {
		refused(s, booked(), stay("a", 1, 9), api.ErrNil)
	}
	down(d)
	refused(s, booked(), stay("a", 1, 9), api.ErrDown)
	refused(s, booked(), stay("a", 9, 1), api.ErrEmpty)
	refused(s, loose, stay("a", 1, 9), api.OK)
}

// TestP18_3Other asks for clashes with the rows of another table.
func TestP18_3Other(t *testing.T) {
	p := begun(t, disk(t))
	other := booked()
	other.Columns[3].Kind = api.Blob
	s := store(t, p, other)
	must(t, "Insert", s.Insert(values{text("a"), number(1), number(9), blob("")}, 5))
	clashes(t, s, stay("a", 1, 9), nil, false)
	must(t, "Insert", s.Insert(stay("a", 2, 9), 5))
	clashes(t, s, stay("a", 1, 9), nil, true)
	// The fronts of the keys are equal, but not the columns from which they are, or there is no period.
	other = booked()
	other.Key = []int{3}
	other.Columns[3].NotNull = true
	s = store(t, p, other)
	must(t, "Insert", s.Insert(values{text("b"), number(1), number(9), text("a")}, 5))
	clashes(t, s, stay("a", 1, 9), nil, false)
	must(t, "Insert", s.Insert(values{text("b"), number(1), number(9), text("b")}, 5))
	clashes(t, s, stay("b", 1, 9), nil, true)
	other.From, other.To = 2, 1
	s = store(t, p, other)
	must(t, "Insert", s.Insert(values{text("b"), number(9), number(1), text("b")}, 5))
	clashes(t, s, stay("b", 1, 9), nil, false)
}

// TestP18_5 inserts random rows that do not clash: no two with the same key overlap (P7).
func TestP18_5(t *testing.T) {
	p := begun(t, disk(t))
	s := store(t, p, booked())
	next := chance(5)
	var rows []values
	refused := 0
	for range 400 {
		from := int64(next.below(16)) - 8
		l := stay(string(rune('a'+next.below(3))), from, from+1+int64(next.below(3)))
		if l[2].Int > 9 {
			continue
		}
		is, code := index.Clash(s, booked(), l, nil)
		must(t, "Clash", code)
		if is {
			refused++
			continue
		}
		must(t, "Insert", s.Insert(l, 5))
		rows = append(rows, l)
	}
	for i, a := range rows {
		for _, b := range rows[:i] {
			if share(a, b) {
				t.Errorf("%v and %v overlap", a, b)
			}
		}
	}
	if len(rows) < 20 || refused < 50 {
		t.Errorf("%d rows, %d refused", len(rows), refused)
	}
}
