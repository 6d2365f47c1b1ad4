package version_test

import (
	"bytes"
	"math"
	"slices"
	"strconv"
	"strings"
	"testing"

	"hindsight/api"
	"hindsight/btree"
	"hindsight/catalog"
	"hindsight/cursor"
	"hindsight/pager"
	"hindsight/schema"
	"hindsight/vdisk"
	"hindsight/version"
)

// Short names for what the tests make by the dozen.
type (
	columns = []schema.Column
	values  = []api.Value
	row     = version.Row
	view    = version.View
)

var null = api.Value{}

func number(n int64) api.Value { return api.Value{Kind: api.Int, Int: n} }
func text(s string) api.Value  { return api.Value{Kind: api.Text, Text: s} }
func blob(s string) api.Value  { return api.Value{Kind: api.Blob, Text: s} }

// must reports an error that is not expected.
func must(t *testing.T, what string, code api.Errno) {
	t.Helper()
	if code != api.OK {
		t.Fatalf("%s = %v", what, code)
	}
}

// wants holds the error of a call against the one that it must return.
func wants(t *testing.T, what string, code, want api.Errno) {
	t.Helper()
	if code != want {
		t.Errorf("%s = %v, want %v", what, code, want)
	}
}

// disk is an empty disk.
func disk(t *testing.T) *vdisk.Disk {
	t.Helper()
	d, code := vdisk.New(65536)
	must(t, "New", code)
	return d
}

// open is the pager of a disk.
func open(t *testing.T, d *vdisk.Disk) *pager.Pager {
	t.Helper()
	p, code := pager.Open(d)
	must(t, "Open", code)
	return p
}

// begun is the pager of a disk, in a transaction.
func begun(t *testing.T, d *vdisk.Disk) *pager.Pager {
	t.Helper()
	p := open(t, d)
	must(t, "Begin", p.Begin())
	return p
}

// down has the disk fail.
func down(d *vdisk.Disk) {
	d.Fail(0)
	d.Sync(0)
}

// plain is a table of an integer, its key, and a text.
func plain() schema.Table {
	return schema.Table{Name: "t", Columns: columns{{Name: "a", Kind: api.Int, NotNull: true}, {Name: "b", Kind: api.Text}}, Key: []int{0}, From: -1, To: -1}
}

// kept is plain with a history.
func kept() schema.Table {
	t := plain()
	t.Versioned = true
	return t
}

// booked is a table with a history, a period, and a key of a blob and a text, in this order; rows of one key may not overlap.
func booked() schema.Table {
	return schema.Table{
		Name:    "booked",
		Columns: columns{{Name: "since", Kind: api.Int, NotNull: true}, {Name: "x", Kind: api.Text, NotNull: true}, {Name: "y", Kind: api.Blob, NotNull: true}, {Name: "until", Kind: api.Int, NotNull: true}},
		Key:     []int{2, 1}, Period: "stay", From: 0, To: 3, Apart: true, Versioned: true,
	}
}

// pair are the values of a row of plain and of kept.
func pair(a int64, b string) values { return values{number(a), text(b)} }

// keyOf is the key of a row that is valid.
func keyOf(t *testing.T, x schema.Table, l values) []byte {
	t.Helper()
	k, code := schema.KeyOf(x, l)
	must(t, "KeyOf", code)
	return k
}

// entry is the entry of a table, with new trees.
func entry(t *testing.T, p *pager.Pager, x schema.Table) catalog.Entry {
	t.Helper()
	e := catalog.Entry{Table: x, Current: root(t, p), Mark: math.MinInt64}
	if x.Versioned {
		e.History = root(t, p)
	}
	return e
}

// root is the root page of a new tree.
func root(t *testing.T, p *pager.Pager) int {
	t.Helper()
	a, code := btree.Create(p)
	must(t, "Create", code)
	return a.Root()
}

// store is the store of an entry.
func store(t *testing.T, p *pager.Pager, e catalog.Entry) *version.Store {
	t.Helper()
	s, code := version.New(p, e)
	must(t, "New", code)
	return s
}

// fresh is the store of a table on an empty disk, in a transaction.
func fresh(t *testing.T, x schema.Table) (*pager.Pager, catalog.Entry, *version.Store) {
	t.Helper()
	p := begun(t, disk(t))
	e := entry(t, p, x)
	return p, e, store(t, p, e)
}

// same reports whether versions are equal.
func same(a, b row) bool {
	return slices.Equal(a.Values, b.Values) && a.From == b.From && a.To == b.To
}

// areSame reports whether lists of versions are equal.
func areSame(a, b []row) bool { return slices.EqualFunc(a, b, same) }

// has holds what a view shows against the versions that it must show.
func has(t *testing.T, s *version.Store, v view, want ...row) {
	t.Helper()
	if l, code := s.Scan(v); !areSame(l, want) || code != api.OK {
		t.Errorf("Scan(%v) = %v %v, want %v", v, l, code, want)
	}
}

// holds holds the current version of a key against the one that it must be; nil if there must be none.
func holds(t *testing.T, s *version.Store, key []byte, want *row) {
	t.Helper()
	r, is, code := s.Get(key)
	if want == nil {
		want = &row{}
	}
	if !same(r, *want) || is != (want.To != 0) || code != api.OK {
		t.Errorf("Get(%q) = %v %v %v, want %v", key, r, is, code, *want)
	}
}

// rowCalls are the errors of the methods that need the current version of a key, which cannot be read: those that return something besides must return nothing.
func rowCalls(t *testing.T, s *version.Store, key []byte, l values, stamp int64) []api.Errno {
	t.Helper()
	r, is, get := s.Get(key)
	a, front := s.Front(key)
	if !same(r, row{}) || is || len(a) != 0 {
		t.Errorf("Get = %v %v, Front = %v", r, is, a)
	}
	return []api.Errno{get, front, s.Insert(l, stamp), s.Replace(key, l, stamp), s.Delete(key, stamp)}
}

// calls are the errors of all methods, each of which must fail.
func calls(t *testing.T, s *version.Store, key []byte, l values, stamp int64, v view) []api.Errno {
	t.Helper()
	a, scan := s.Scan(v)
	n, prune := s.Prune(stamp)
	if len(a) != 0 || n != 0 {
		t.Errorf("Scan = %v, Prune = %d", a, n)
	}
	return append(rowCalls(t, s, key, l, stamp), scan, prune, s.Drop())
}

// pages is all that a pager shows.
func pages(t *testing.T, p *pager.Pager) string {
	t.Helper()
	var s strings.Builder
	for n := 1; n < p.Pages(); n++ {
		b, code := p.Get(n)
		must(t, "Get", code)
		s.Write(b)
	}
	return s.String()
}

// pairs are the pairs of a tree.
func pairs(t *testing.T, p *pager.Pager, root int) []btree.Pair {
	t.Helper()
	l, code := cursor.Range(btree.Open(p, root), "", strings.Repeat("\xff", 101), math.MaxInt)
	must(t, "Range", code)
	return l
}

// fill leaves so many pages that are free, and none that could be added.
func fill(t *testing.T, p *pager.Pager, free int) {
	t.Helper()
	var l []int
	for {
		n, code := p.Alloc()
		if code == api.ErrFull {
			break
		}
		must(t, "Alloc", code)
		l = append(l, n)
	}
	for _, n := range l[:free] {
		must(t, "Free", p.Free(n))
	}
}

// model is what a store must have, as a list of versions in any order.
type model struct {
	table schema.Table
	rows  []row
}

// clone is the same model in new memory.
func (m model) clone() model { return model{m.table, slices.Clone(m.rows)} }

// key is the key of a version.
func (m model) key(r row) []byte {
	k, _ := schema.KeyOf(m.table, r.Values)
	return k
}

// at is the place of the current version of a key, or -1.
func (m model) at(key []byte) int {
	return slices.IndexFunc(m.rows, func(r row) bool { return r.To == version.Now && bytes.Equal(m.key(r), key) })
}

// insert adds a current version of a row that is valid and short enough.
func (m *model) insert(l values, stamp int64) api.Errno {
	r := row{Values: l, From: stamp, To: version.Now}
	if m.at(m.key(r)) >= 0 {
		return api.ErrUnique
	}
	m.rows = append(m.rows, r)
	return api.OK
}

// remove makes the current version of a key a past one.
func (m *model) remove(key []byte, stamp int64) api.Errno {
	i := m.at(key)
	switch {
	case i < 0:
		return api.ErrNone
	case m.rows[i].From > stamp:
		return api.ErrState
	case m.table.Versioned && m.rows[i].From < stamp:
		m.rows[i].To = stamp
	default:
		m.rows = slices.Delete(m.rows, i, i+1)
	}
	return api.OK
}

// replace gives the current version of a key other values.
func (m *model) replace(key []byte, l values, stamp int64) api.Errno {
	if m.at(key) >= 0 && !bytes.Equal(m.key(row{Values: l}), key) {
		return api.ErrArg
	}
	if code := m.remove(key, stamp); code != api.OK {
		return code
	}
	return m.insert(l, stamp)
}

// prune removes the past versions up to a mark.
func (m *model) prune(mark int64) int {
	before := len(m.rows)
	m.rows = slices.DeleteFunc(m.rows, func(r row) bool { return r.To != version.Now && r.To <= mark })
	return before - len(m.rows)
}

// scan is the versions that are wanted, the current ones by their keys, and then the past ones by key and To.
func (m model) scan(wanted func(r row) bool) []row {
	var now, past []row
	for _, r := range m.rows {
		switch {
		case !wanted(r):
		case r.To == version.Now:
			now = append(now, r)
		default:
			past = append(past, r)
		}
	}
	slices.SortFunc(now, func(a, b row) int { return bytes.Compare(m.key(a), m.key(b)) })
	slices.SortFunc(past, func(a, b row) int {
		if c := bytes.Compare(m.key(a), m.key(b)); c != 0 {
			return c
		}
		if a.To < b.To {
			return -1
		}
		return 1
	})
	return append(now, past...)
}

// isAt reports whether a version was the row of its key at a stamp.
func isAt(r row, stamp int64) bool {
	return r.From <= stamp && (r.To == version.Now || stamp < r.To)
}

// check holds what a store shows against a model, with views of stamps from first to last.
func check(t *testing.T, s *version.Store, m model, first, last int64) {
	t.Helper()
	now := m.scan(func(r row) bool { return r.To == version.Now })
	has(t, s, view{Kind: 0, A: first, B: last}, now...)
	for _, r := range now {
		holds(t, s, m.key(r), &r)
	}
	for end := range 12 {
		front := []byte{17, 128, 0, 0, 0, 0, 0, 0, 3, 18, 'a'}[:end]
		want := slices.DeleteFunc(slices.Clone(now), func(r row) bool { return !bytes.HasPrefix(m.key(r), front) })
		if l, code := s.Front(front); !areSame(l, want) || code != api.OK {
			t.Errorf("Front(%q) = %v %v, want %v", front, l, code, want)
		}
	}
	if !m.table.Versioned {
		return
	}
	has(t, s, view{Kind: 4, A: last, B: first}, m.scan(func(row) bool { return true })...)
	for a := first; a <= last; a++ {
		has(t, s, view{Kind: 1, A: a, B: first}, m.scan(func(r row) bool { return isAt(r, a) })...)
		for b := first; b <= last; b++ {
			within := func(r row, end int64) bool {
				for stamp := a; stamp < end; stamp++ {
					if isAt(r, stamp) {
						return true
					}
				}
				return false
			}
			has(t, s, view{Kind: 2, A: a, B: b}, m.scan(func(r row) bool { return within(r, b) })...)
			has(t, s, view{Kind: 3, A: a, B: b}, m.scan(func(r row) bool { return within(r, b+1) })...)
		}
	}
}

// chance is a sequence of numbers that is the same in every run.
type chance uint64

// below is the next number, from 0 to n - 1.
func (c *chance) below(n int) int {
	*c = *c*6364136223846793005 + 1442695040888963407
	return int(uint64(*c)>>33) % n
}

// content is the next text, of any length that a row can have.
func (c *chance) content() string {
	most := []int{3, 40, 130, 600, 1500}[c.below(5)]
	return strings.Repeat(strconv.Itoa(c.below(10)), c.below(most))
}
