package version_test

import (
	"bytes"
	"math"
	"slices"
	"strings"
	"testing"

	"hindsight/api"
	"hindsight/catalog"
	"hindsight/pager"
	"hindsight/schema"
	"hindsight/version"
)

func TestP17_1New(t *testing.T) {
	d := disk(t)
	p := begun(t, d)
	for _, x := range []schema.Table{plain(), kept(), booked()} {
		e := entry(t, p, x)
		s := store(t, p, e)
		check(t, s, model{table: x}, 0, 1)
		// A store is what its trees have: two of one entry have the same rows.
		l := pair(1, "x")
		if x.Name == "booked" {
			l = values{number(1), text("x"), blob(""), number(2)}
		}
		must(t, "Insert", s.Insert(l, 5))
		has(t, store(t, p, e), view{}, row{Values: l, From: 5, To: version.Now})
	}
	must(t, "Commit", p.Commit())
	// Nothing is read by New.
	down(d)
	for _, p := range []*pager.Pager{p, nil, {}} {
		for _, n := range []int{1, -1, 4095, 4096, math.MinInt, math.MaxInt} {
			for _, mark := range []int64{0, math.MinInt64, math.MaxInt64} {
				store(t, p, catalog.Entry{Table: plain(), Current: n, Mark: mark})
				store(t, p, catalog.Entry{Table: kept(), Current: n, History: n, Mark: mark})
				store(t, p, catalog.Entry{Table: kept(), History: n, Mark: mark})
			}
		}
		store(t, p, catalog.Entry{Table: plain()})
	}
}

func TestP17_1NewForm(t *testing.T) {
	p := begun(t, disk(t))
	refused := func(e catalog.Entry) {
		t.Helper()
		for _, p := range []*pager.Pager{p, nil} {
			if s, code := version.New(p, e); s != nil || code != api.ErrForm {
				t.Errorf("New(%+v) = %v %v", e, s, code)
			}
		}
	}
	refused(catalog.Entry{})
	refused(catalog.Entry{Current: 1, History: 2})
	refused(catalog.Entry{Table: kept(), Current: 1})
	for _, n := range []int{1, 2, -1, 4096, math.MinInt, math.MaxInt} {
		refused(catalog.Entry{Table: plain(), Current: 1, History: n})
	}
	for _, change := range []func(x *schema.Table){
		func(x *schema.Table) { x.Name = "T" },
		func(x *schema.Table) { x.Key = nil },
		func(x *schema.Table) { x.Key = []int{2} },
		func(x *schema.Table) { x.Columns[0].NotNull = false },
		func(x *schema.Table) { x.Columns[1].Name = "sys_from" },
		func(x *schema.Table) { x.From = 0 },
		func(x *schema.Table) { x.Apart = true },
		func(x *schema.Table) { x.Columns = nil },
	} {
		a, b := plain(), kept()
		change(&a)
		change(&b)
		refused(catalog.Entry{Table: a, Current: 1})
		refused(catalog.Entry{Table: b, Current: 1, History: 2})
	}
}

func TestP17_1NoStore(t *testing.T) {
	for _, s := range []*version.Store{nil, {}, new(version.Store)} {
		for _, kind := range []int{0, 1, 2, 3, 4, 5, -1} {
			wants(t, "May", s.May(view{Kind: kind}), api.ErrNil)
			for _, key := range [][]byte{nil, {16}, bytes.Repeat([]byte{255}, 200)} {
				for _, l := range []values{nil, pair(1, "x"), {{Kind: 9}}} {
					for _, code := range calls(t, s, key, l, 5, view{Kind: kind}) {
						wants(t, "a call without a store", code, api.ErrNil)
					}
				}
			}
		}
	}
	// A store of no pager is one, but nothing can be read.
	for _, p := range []*pager.Pager{nil, {}} {
		s := store(t, p, catalog.Entry{Table: kept(), Current: 1, History: 2})
		for _, code := range calls(t, s, keyOf(t, kept(), pair(1, "x")), pair(1, "x"), 5, view{Kind: 1, A: 5}) {
			wants(t, "a call without a pager", code, api.ErrNil)
		}
		wants(t, "May", s.May(view{Kind: 4}), api.ErrPruned)
	}
}

// TestP17_1Arguments changes what New was given, what it was not, and what the calls returned.
func TestP17_1Arguments(t *testing.T) {
	p := begun(t, disk(t))
	e := entry(t, p, kept())
	e.Table.Columns = append(slices.Clone(e.Table.Columns), schema.Column{Name: "spare"})[:2]
	s := store(t, p, e)
	e.Table.Columns[0], e.Table.Key[0] = schema.Column{}, 9
	e.Table.Columns[1].Kind = api.Blob
	e.Table.Columns[:3][2].Name = "other"
	l := pair(1, "x")
	key := keyOf(t, kept(), l)
	want := row{Values: pair(1, "x"), From: 5, To: version.Now}
	must(t, "Insert", s.Insert(l, 5))
	clear(l)
	holds(t, s, key, &want)
	k := append(slices.Clone(key), 7)[:len(key)]
	l = append(pair(1, "y"), number(7))[:2]
	must(t, "Replace", s.Replace(k, l, 6))
	if !bytes.Equal(k[:len(key)+1], append(slices.Clone(key), 7)) || !slices.Equal(l[:3], append(pair(1, "y"), number(7))) {
		t.Errorf("Replace has changed its arguments: %v %v", k, l)
	}
	clear(k)
	clear(l)
	past := row{Values: want.Values, From: 5, To: 6}
	want = row{Values: pair(1, "y"), From: 6, To: version.Now}
	for range 2 {
		r, _, _ := s.Get(key)
		a, _ := s.Front(key)
		b, _ := s.Scan(view{Kind: 4})
		if !same(r, want) || !areSame(a, []row{want}) || !areSame(b, []row{want, past}) {
			t.Errorf("Get = %v, Front = %v, Scan = %v", r, a, b)
		}
		for _, x := range append(append(b, a...), r) {
			clear(x.Values[:cap(x.Values)])
		}
	}
}

func TestP17_2Get(t *testing.T) {
	_, _, s := fresh(t, booked())
	of := func(x, y string, since int64) values {
		return values{number(since), text(x), blob(y), number(since + 1)}
	}
	m := model{table: booked()}
	// Texts that begin with one another, with zeros and without, at all places of the key.
	for _, x := range []string{"", "\x00", "\x00\x01", "\x01", "a", "a\x00", "a\x00b", "ab", "\xff", "a\xff"} {
		for _, y := range []string{"", "\x00", "a", "ab", "\xff\xff"} {
			for _, since := range []int64{math.MinInt64, -1, 0, 1, math.MaxInt64 - 1} {
				l := of(x, y, since)
				holds(t, s, keyOf(t, booked(), l), nil)
				must(t, "Insert", s.Insert(l, since))
				must(t, "insert", m.insert(l, since))
			}
		}
	}
	check(t, s, m, -1, 1)
	for _, r := range m.rows {
		key := m.key(r)
		for _, k := range [][]byte{key[:len(key)-1], key[1:], append(key, 0), append([]byte{0}, key...), bytes.Repeat(key, 5)} {
			holds(t, s, k, nil)
		}
	}
	for _, k := range [][]byte{nil, {}, {0}, {16}, {255}, bytes.Repeat([]byte{255}, 100), bytes.Repeat([]byte{17}, 101), make([]byte, 1<<16)} {
		holds(t, s, k, nil)
	}
}

func TestP17_2Front(t *testing.T) {
	_, _, s := fresh(t, booked())
	m := model{table: booked()}
	for _, x := range []string{"b", "a", "ab", ""} {
		for _, y := range []string{"b", "", "a"} {
			for _, since := range []int64{9, -9, 0} {
				must(t, "Insert", s.Insert(values{number(since), text(x), blob(y), number(10)}, 5))
				must(t, "insert", m.insert(values{number(since), text(x), blob(y), number(10)}, 5))
			}
		}
	}
	fronts := [][]byte{nil, {}, {0}, {19}, {18}, {20}, {255}, bytes.Repeat([]byte{255}, 100), bytes.Repeat([]byte{19}, 101)}
	for _, r := range m.rows {
		key := m.key(r)
		for i := range key {
			fronts = append(fronts, key[:i])
		}
		fronts = append(fronts, key, append(key, 0))
	}
	most := 0
	for _, front := range fronts {
		want := m.scan(func(r row) bool { return bytes.HasPrefix(m.key(r), front) })
		if l, code := s.Front(front); !areSame(l, want) || code != api.OK {
			t.Errorf("Front(%q) = %v %v, want %v", front, l, code, want)
		}
		most = max(most, len(want))
	}
	if most != 36 {
		t.Errorf("at most %d rows", most)
	}
	// Past versions are not among them.
	gone := m.key(m.rows[7])
	must(t, "Delete", s.Delete(gone, 9))
	if l, code := s.Front(gone); len(l) != 0 || code != api.OK {
		t.Errorf("Front = %v %v", l, code)
	}
	if l, code := s.Front(nil); len(l) != 35 || code != api.OK {
		t.Errorf("Front = %v %v", l, code)
	}
}

// TestP17_2ReadDown reads from a disk that is down.
func TestP17_2ReadDown(t *testing.T) {
	d := disk(t)
	p := begun(t, d)
	e := entry(t, p, kept())
	s := store(t, p, e)
	l := pair(1, strings.Repeat("x", 600))
	key := keyOf(t, kept(), l)
	must(t, "Insert", s.Insert(l, 5))
	must(t, "Commit", p.Commit())
	must(t, "Begin", p.Begin())
	down(d)
	for _, kind := range []int{0, 1, 2, 3, 4} {
		for _, code := range calls(t, s, key, pair(1, "y"), 6, view{Kind: kind, A: 5, B: 9}) {
			wants(t, "a call without a disk", code, api.ErrDown)
		}
	}
	wants(t, "May", s.May(view{Kind: 4}), api.OK)
	// What is told by the arguments is told ahead of it.
	wants(t, "Insert", s.Insert(nil, 6), api.ErrArg)
	wants(t, "Insert", s.Insert(pair(1, strings.Repeat("x", 8192)), 6), api.ErrLong)
	wants(t, "Replace", s.Replace(key, values{null, null}, 6), api.ErrNull)
	wants(t, "Replace", s.Replace(key, pair(2, "y"), 6), api.ErrArg)
	wants(t, "Replace", s.Replace(key, pair(1, strings.Repeat("x", 8192)), 6), api.ErrLong)
	must(t, "Crash", d.Crash(nil))
	has(t, store(t, open(t, d), e), view{Kind: 4}, row{Values: l, From: 5, To: version.Now})
}
