package catalog_test

import (
	"maps"
	"math"
	"slices"
	"strconv"
	"strings"
	"testing"

	"hindsight/api"
	"hindsight/btree"
	"hindsight/catalog"
	"hindsight/cursor"
	"hindsight/pager"
	"hindsight/schema"
	"hindsight/vdisk"
)

// must reports an error that is not expected.
func must(t *testing.T, what string, code api.Errno) {
	t.Helper()
	if code != api.OK {
		t.Fatalf("%s = %v", what, code)
	}
}

// wants holds the error of a call against the one that it must return.
func wants(t *testing.T, what string, code, want api.Errno) {
	t.Helper()
	if code != want {
		t.Errorf("%s = %v, want %v", what, code, want)
	}
}

// disk is an empty disk.
func disk(t *testing.T) *vdisk.Disk {
	t.Helper()
	d, code := vdisk.New(65536)
	must(t, "New", code)
	return d
}

// open is the pager of a disk.
func open(t *testing.T, d *vdisk.Disk) *pager.Pager {
	t.Helper()
	p, code := pager.Open(d)
	must(t, "Open", code)
	return p
}

// begun is the pager of a disk, in a transaction.
func begun(t *testing.T, d *vdisk.Disk) *pager.Pager {
	t.Helper()
	p := open(t, d)
	must(t, "Begin", p.Begin())
	return p
}

// down has the disk fail.
func down(d *vdisk.Disk) {
	d.Fail(0)
	d.Sync(0)
}

// create is a new catalog.
func create(t *testing.T, p *pager.Pager) *catalog.Catalog {
	t.Helper()
	c, code := catalog.Create(p)
	must(t, "Create", code)
	return c
}

// fresh is a new catalog of an empty disk, in a transaction.
func fresh(t *testing.T) (*pager.Pager, *catalog.Catalog) {
	t.Helper()
	p := begun(t, disk(t))
	return p, create(t, p)
}

// table is a table of that name with so many columns.
func table(name string, count int) schema.Table {
	x := schema.Table{Name: name, Key: []int{0}, From: -1, To: -1}
	for i := range count {
		x.Columns = append(x.Columns, schema.Column{Name: "column_number_" + strconv.Itoa(i), Kind: uint8(1 + i%3), NotNull: i%2 == 0})
	}
	return x
}

// entry is the entry of a table of that name with so many columns.
func entry(name string, count int) catalog.Entry {
	return catalog.Entry{Table: table(name, count), Current: 100 + count, History: count, Mark: int64(count) - 9}
}

// index is an index entry.
func index(name, table string, column int) catalog.IndexEntry {
	return catalog.IndexEntry{Index: schema.Index{Name: name, Table: table, Column: column}, Root: 200 + column}
}

// same reports whether entries are equal.
func same(a, b catalog.Entry) bool {
	return schema.Same(a.Table, b.Table) && a.Current == b.Current && a.History == b.History && a.Mark == b.Mark
}

// model is what a catalog must have, as lists.
type model struct {
	tables  []catalog.Entry
	indexes []catalog.IndexEntry
}

// clone is the same model in new memory.
func (m model) clone() model { return model{slices.Clone(m.tables), slices.Clone(m.indexes)} }

// at is the place of a table, or -1.
func (m model) at(table string) int {
	return slices.IndexFunc(m.tables, func(x catalog.Entry) bool { return x.Table.Name == table })
}

// indexAt is the place of an index, or -1.
func (m model) indexAt(name string) int {
	return slices.IndexFunc(m.indexes, func(x catalog.IndexEntry) bool { return x.Index.Name == name })
}

// put stores an entry that is valid.
func (m *model) put(x catalog.Entry) api.Errno {
	switch i := m.at(x.Table.Name); {
	case i >= 0:
		m.tables[i] = x
	case len(m.tables) == api.MaxTables:
		return api.ErrFull
	default:
		m.tables = append(m.tables, x)
	}
	return api.OK
}

// del removes a table with its indexes.
func (m *model) del(table string) api.Errno {
	i := m.at(table)
	if i < 0 {
		return api.ErrTable
	}
	m.tables = slices.Delete(m.tables, i, i+1)
	m.indexes = slices.DeleteFunc(m.indexes, func(x catalog.IndexEntry) bool { return x.Index.Table == table })
	return api.OK
}

// putIndex stores an index entry that is valid.
func (m *model) putIndex(x catalog.IndexEntry) api.Errno {
	i := m.at(x.Index.Table)
	switch {
	case i < 0:
		return api.ErrTable
	case x.Index.Column >= len(m.tables[i].Table.Columns):
		return api.ErrColumn
	case m.indexAt(x.Index.Name) >= 0:
		return api.ErrThere
	case len(m.indexes) == api.MaxTables:
		return api.ErrFull
	}
	m.indexes = append(m.indexes, x)
	return api.OK
}

// delIndex removes an index.
func (m *model) delIndex(name string) api.Errno {
	i := m.indexAt(name)
	if i < 0 {
		return api.ErrNone
	}
	m.indexes = slices.Delete(m.indexes, i, i+1)
	return api.OK
}

// names are the names of the tables, in order.
func (m model) names() []string {
	l := map[string]bool{}
	for _, x := range m.tables {
		l[x.Table.Name] = true
	}
	return slices.Sorted(maps.Keys(l))
}

// indexesOf are the index entries of a table, ordered by their names.
func (m model) indexesOf(table string) []catalog.IndexEntry {
	var l []catalog.IndexEntry
	for _, x := range m.indexes {
		if x.Index.Table == table {
			l = append(l, x)
		}
	}
	slices.SortFunc(l, func(a, b catalog.IndexEntry) int { return strings.Compare(a.Index.Name, b.Index.Name) })
	return l
}

// noTables are names of no table in the tests.
func noTables() []string {
	return []string{"", "none", "T", "t ", "\x00", "\xff", "t\x00", strings.Repeat("t", 20), strings.Repeat("t", 99), strings.Repeat("t", 100), strings.Repeat("\xff", 101), strings.Repeat("t", 1<<16)}
}

// check holds all that a catalog shows against a model.
func check(t *testing.T, c *catalog.Catalog, m model) {
	t.Helper()
	names, code := c.Tables()
	if want := m.names(); !slices.Equal(names, want) || code != api.OK {
		t.Fatalf("Tables = %q %v, want %q", names, code, want)
	}
	for _, want := range m.tables {
		if x, code := c.Get(want.Table.Name); !same(x, want) || code != api.OK {
			t.Fatalf("Get(%q) = %+v %v, want %+v", want.Table.Name, x, code, want)
		}
	}
	for _, s := range []string{"", "none", "T", "a", "b", "t", "x"} {
		if m.at(s) >= 0 {
			continue
		}
		if x, code := c.Get(s); !same(x, catalog.Entry{}) || code != api.ErrTable {
			t.Fatalf("Get(%.100q) = %+v %v", s, x, code)
		}
	}
	for _, s := range append(names, "", "none", "T", "a", "b", "t", "x") {
		if l, code := c.Indexes(s); !slices.Equal(l, m.indexesOf(s)) || code != api.OK {
			t.Fatalf("Indexes(%.100q) = %+v %v, want %+v", s, l, code, m.indexesOf(s))
		}
	}
}

// view is all that a pager shows.
func view(t *testing.T, p *pager.Pager) string {
	t.Helper()
	var s strings.Builder
	for n := 1; n < p.Pages(); n++ {
		b, code := p.Get(n)
		must(t, "Get", code)
		s.Write(b)
	}
	m := p.Meta()
	return s.String() + string(m[:])
}

// pairs are the pairs of the tree of a catalog.
func pairs(t *testing.T, p *pager.Pager, c *catalog.Catalog) []btree.Pair {
	t.Helper()
	l, code := cursor.Range(btree.Open(p, c.Root()), "", strings.Repeat("\xff", 101), 1000)
	must(t, "Range", code)
	return l
}

// wrongPages are numbers that cannot be that of the page of a tree.
func wrongPages() []int {
	return []int{-1, -2, -4095, math.MinInt, math.MinInt + 1, 4096, 4097, 65536 + 5, 1 << 24, 1<<31 - 1, 1<<32 + 5, math.MaxInt}
}

// chance is a sequence of numbers that is the same in every run.
type chance uint64

// below is the next number, from 0 to n - 1.
func (c *chance) below(n int) int {
	*c = *c*6364136223846793005 + 1442695040888963407
	return int(uint64(*c)>>33) % n
}
