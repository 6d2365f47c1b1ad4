package index_test

import (
	"bytes"
	"math"
	"slices"
	"strconv"
	"strings"
	"testing"

	"hindsight/api"
	"hindsight/btree"
	"hindsight/catalog"
	"hindsight/cursor"
	"hindsight/index"
	"hindsight/key"
	"hindsight/pager"
	"hindsight/schema"
	"hindsight/vdisk"
	"hindsight/version"
)

// Short names for what the tests make by the dozen.
type (
	columns = []schema.Column
	values  = []api.Value
)

var null = api.Value{}

func number(n int64) api.Value { return api.Value{Kind: api.Int, Int: n} }
func text(s string) api.Value  { return api.Value{Kind: api.Text, Text: s} }
func blob(s string) api.Value  { return api.Value{Kind: api.Blob, Text: s} }

// must reports an error that is not expected.
func must(t *testing.T, what string, code api.Errno) {
	t.Helper()
	if code != api.OK {
		t.Fatalf("%s = %v", what, code)
	}
}

// wants holds the error of a call against the one that it must return.
func wants(t *testing.T, what string, code, want api.Errno) {
	t.Helper()
	if code != want {
		t.Errorf("%s = %v, want %v", what, code, want)
	}
}

// disk is an empty disk.
func disk(t *testing.T) *vdisk.Disk {
	t.Helper()
	d, code := vdisk.New(65536)
	must(t, "New", code)
	return d
}

// open is the pager of a disk.
func open(t *testing.T, d *vdisk.Disk) *pager.Pager {
	t.Helper()
	p, code := pager.Open(d)
	must(t, "Open", code)
	return p
}

// begun is the pager of a disk, in a transaction.
func begun(t *testing.T, d *vdisk.Disk) *pager.Pager {
	t.Helper()
	p := open(t, d)
	must(t, "Begin", p.Begin())
	return p
}

// down has the disk fail.
func down(d *vdisk.Disk) {
	d.Fail(0)
	d.Sync(0)
}

// mixed is a table with columns of all kinds; its key is the last one.
func mixed() schema.Table {
	return schema.Table{
		Name:    "t",
		Columns: columns{{Name: "i", Kind: api.Int}, {Name: "s", Kind: api.Text}, {Name: "b", Kind: api.Blob}, {Name: "id", Kind: api.Text, NotNull: true}},
		Key:     []int{3}, From: -1, To: -1,
	}
}

// of is the index of a column of mixed.
func of(column int) schema.Index { return schema.Index{Name: "x", Table: "t", Column: column} }

// in is a row of mixed with a value in a column.
func in(column int, v api.Value, id string) values {
	l := values{null, null, null, text(id)}
	l[column] = v
	return l
}

// keyOf is the key of a row that is valid.
func keyOf(t *testing.T, x schema.Table, l values) string {
	t.Helper()
	k, code := schema.KeyOf(x, l)
	must(t, "KeyOf", code)
	return string(k)
}

// root is the root page of a new tree.
func root(t *testing.T, p *pager.Pager) int {
	t.Helper()
	a, code := btree.Create(p)
	must(t, "Create", code)
	return a.Root()
}

// opened is an index.
func opened(t *testing.T, p *pager.Pager, x schema.Table, i schema.Index, root int) *index.Index {
	t.Helper()
	a, code := index.New(p, x, i, root)
	must(t, "New", code)
	return a
}

// fresh is an index of a column of mixed on an empty disk, in a transaction; the root of its tree is page 1.
func fresh(t *testing.T, column int) (*pager.Pager, *index.Index) {
	t.Helper()
	p := begun(t, disk(t))
	if n := root(t, p); n != 1 {
		t.Fatalf("Create = %d", n)
	}
	return p, opened(t, p, mixed(), of(column), 1)
}

// store is the store of a table, with new trees.
func store(t *testing.T, p *pager.Pager, x schema.Table) *version.Store {
	t.Helper()
	e := catalog.Entry{Table: x, Current: root(t, p), Mark: math.MinInt64}
	if x.Versioned {
		e.History = root(t, p)
	}
	s, code := version.New(p, e)
	must(t, "New", code)
	return s
}

// frontOf is the front of a value by the chapter, without its number.
func frontOf(v api.Value) string {
	b, code := key.Write(values{v})
	if code == api.ErrLong {
		v.Text = v.Text[:18]
		b, _ = key.Write(values{v})
	}
	return string(b[:min(len(b), 18)])
}

// model is the rows that an index has, by their keys in its tree.
type model map[string]values

// placeOf is the key in the tree of a row.
func placeOf(t *testing.T, column int, l values) string {
	t.Helper()
	f := frontOf(l[column])
	return string([]byte{byte(len(f))}) + f + keyOf(t, mixed(), l)
}

// check holds all that an index of a column of mixed shows against a model.
func check(t *testing.T, p *pager.Pager, root int, x *index.Index, column int, m model) {
	t.Helper()
	var want []btree.Pair
	var all []string
	for k := range m {
		want = append(want, btree.Pair{Key: k})
	}
	slices.SortFunc(want, func(a, b btree.Pair) int { return strings.Compare(a.Key, b.Key) })
	for _, w := range want {
		all = append(all, keyOf(t, mixed(), m[w.Key]))
	}
	got, code := cursor.Range(btree.Open(p, root), "", strings.Repeat("\xff", 101), math.MaxInt)
	if !slices.EqualFunc(got, want, func(a, b btree.Pair) bool { return a.Key == b.Key && len(a.Val) == 0 }) || code != api.OK {
		t.Fatalf("the tree has %q %v, want %q", got, code, want)
	}
	if l, code := x.All(); !slices.Equal(l, all) || code != api.OK {
		t.Fatalf("All = %q %v, want %q", l, code, all)
	}
	for _, row := range m {
		finds(t, x, column, m, row[column])
	}
}

// finds holds Find of a value against a model.
func finds(t *testing.T, x *index.Index, column int, m model, v api.Value) {
	t.Helper()
	var want []string
	for _, row := range m {
		if frontOf(row[column]) == frontOf(v) {
			want = append(want, keyOf(t, mixed(), row))
		}
	}
	slices.Sort(want)
	l, code := x.Find(v)
	if !slices.Equal(l, want) || code != api.OK {
		t.Errorf("Find(%v) = %q %v, want %q", v, l, code, want)
	}
	// Whatever the fronts are, the rows with that value are among them.
	for _, row := range m {
		if row[column] == v && !slices.Contains(l, keyOf(t, mixed(), row)) {
			t.Errorf("Find(%v) = %q, without %v", v, l, row)
		}
	}
}

// calls are the errors of all methods; those that return something besides must return nothing.
func calls(t *testing.T, x *index.Index, l values, v api.Value) []api.Errno {
	t.Helper()
	a, find := x.Find(v)
	b, all := x.All()
	if len(a)+len(b) != 0 {
		t.Errorf("Find = %q, All = %q", a, b)
	}
	return []api.Errno{find, all, x.Add(l), x.Del(l)}
}

// pages is all that a pager shows.
func pages(t *testing.T, p *pager.Pager) string {
	t.Helper()
	var s bytes.Buffer
	for n := 1; n < p.Pages(); n++ {
		b, code := p.Get(n)
		must(t, "Get", code)
		s.Write(b)
	}
	return s.String()
}

// chance is a sequence of numbers that is the same in every run.
type chance uint64

// below is the next number, from 0 to n - 1.
func (c *chance) below(n int) int {
	*c = *c*6364136223846793005 + 1442695040888963407
	return int(uint64(*c)>>33) % n
}

// value is the next value for a column of mixed, of few that there are; many of them have their first bytes in common.
func (c *chance) value(column int) api.Value {
	s := strings.Repeat("x", []int{0, 1, 14, 15, 16, 17, 18, 90, 97, 98, 500}[c.below(11)])
	if c.below(3) == 0 {
		s = strings.Repeat("\x00", c.below(60)) + s
	}
	if c.below(2) == 0 {
		s += strconv.Itoa(c.below(3))
	}
	switch {
	case c.below(6) == 0:
		return null
	case column == 0:
		return number(int64(c.below(7)) - 3)
	case column == 1:
		return text(s)
	}
	return blob(s)
}
