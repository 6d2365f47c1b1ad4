package catalog_test

import (
	"bytes"
	"math"
	"slices"
	"strconv"
	"strings"
	"testing"

	"hindsight/api"
	"hindsight/btree"
	"hindsight/catalog"
	"hindsight/pager"
	"hindsight/schema"
)

func TestP16_1Create(t *testing.T) {
	p := begun(t, disk(t))
	var l []*catalog.Catalog
	for want := 1; want <= 3; want++ {
		c := create(t, p)
		if c.Root() != want {
			t.Errorf("Root = %d, want %d", c.Root(), want)
		}
		check(t, c, model{})
		l = append(l, c)
	}
	// The catalogs do not share their entries.
	for i, c := range l {
		check(t, c, model{})
		must(t, "Put", c.Put(entry("t", i+1)))
		check(t, c, model{tables: []catalog.Entry{entry("t", i+1)}})
	}
}

func TestP16_1CreateErrors(t *testing.T) {
	refused := func(p *pager.Pager, want api.Errno) {
		t.Helper()
		pages := p.Pages()
		if c, code := catalog.Create(p); c != nil || code != want || p.Pages() != pages {
			t.Errorf("Create = %v %v, want %v", c, code, want)
		}
	}
	refused(nil, api.ErrNil)
	refused(&pager.Pager{}, api.ErrNil)
	d := disk(t)
	p := open(t, d)
	refused(p, api.ErrTx)
	must(t, "Begin", p.Begin())
	for range 4095 {
		_, code := p.Alloc()
		must(t, "Alloc", code)
	}
	refused(p, api.ErrFull)
	must(t, "Free", p.Free(9))
	must(t, "Commit", p.Commit())
	refused(p, api.ErrTx)
	must(t, "Begin", p.Begin())
	down(d)
	refused(p, api.ErrDown)
	must(t, "Crash", d.Crash(nil))
	p = begun(t, d)
	must(t, "Put", p.Put(9, bytes.Repeat([]byte{9}, 512)))
	refused(p, api.ErrCorrupt)
}

func TestP16_1Open(t *testing.T) {
	d := disk(t)
	p := begun(t, d)
	c := create(t, p)
	o := catalog.Open(p, c.Root())
	must(t, "Put", c.Put(entry("t", 3)))
	must(t, "Put", o.Put(entry("u", 4)))
	must(t, "PutIndex", c.PutIndex(index("i", "u", 3)))
	m := model{[]catalog.Entry{entry("u", 4), entry("t", 3)}, []catalog.IndexEntry{index("i", "u", 3)}}
	check(t, c, m)
	check(t, o, m)
	must(t, "Commit", p.Commit())
	check(t, catalog.Open(open(t, d), c.Root()), m)
	// Nothing is read by Open.
	down(d)
	for _, root := range []int{1, 0, 2, -1, 4095, 4096, math.MinInt, math.MaxInt} {
		for _, p := range []*pager.Pager{p, nil, {}} {
			if o := catalog.Open(p, root); o == nil || o.Root() != root {
				t.Errorf("Open = %v, want a catalog with the root %d", o, root)
			}
		}
	}
}

// calls are the errors of all methods; those that return something besides must return nothing.
func calls(t *testing.T, c *catalog.Catalog, x catalog.Entry, i catalog.IndexEntry) []api.Errno {
	t.Helper()
	names, a := c.Tables()
	e, b := c.Get(x.Table.Name)
	l, d := c.Indexes(i.Index.Table)
	if len(names) != 0 || !same(e, catalog.Entry{}) || len(l) != 0 {
		t.Errorf("Tables = %v, Get = %+v, Indexes = %v", names, e, l)
	}
	return []api.Errno{a, b, d, c.Put(x), c.Del(x.Table.Name), c.PutIndex(i), c.DelIndex(i.Index.Name)}
}

func TestP16_1NoCatalog(t *testing.T) {
	for _, c := range []*catalog.Catalog{nil, {}, new(catalog.Catalog)} {
		if c.Root() != 0 {
			t.Errorf("Root = %d", c.Root())
		}
		for _, code := range append(calls(t, c, entry("t", 3), index("i", "t", 0)), calls(t, c, catalog.Entry{}, catalog.IndexEntry{})...) {
			wants(t, "a call without a catalog", code, api.ErrNil)
		}
	}
	// A catalog of no pager is one, but nothing can be read.
	for _, p := range []*pager.Pager{nil, {}} {
		for i, code := range calls(t, catalog.Open(p, 1), entry("t", 3), index("i", "t", 0)) {
			wants(t, "call "+strconv.Itoa(i)+" without a pager", code, api.ErrNil)
		}
	}
}

func TestP16_2Tables(t *testing.T) {
	_, c := fresh(t)
	var m model
	// The names are ordered byte by byte: digits, the underscore, letters.
	for _, s := range []string{"b", "a", "ab", "_", "a1", "a_", "z", "x", "t", "aa", "a11", "__", "a_1", "tt", "xx", strings.Repeat("a", 20)} {
		must(t, "Put", c.Put(entry(s, 2)))
		must(t, "Put", m.put(entry(s, 2)))
		check(t, c, m)
	}
	want := []string{"_", "__", "a", "a1", "a11", "a_", "a_1", "aa", strings.Repeat("a", 20), "ab", "b", "t", "tt", "x", "xx", "z"}
	if l, code := c.Tables(); !slices.Equal(l, want) || code != api.OK {
		t.Errorf("Tables = %q %v", l, code)
	}
}

// valid are entries of all kinds, all of the table t.
func valid() []catalog.Entry {
	var l []catalog.Entry
	for _, n := range []int{1, 2, 3, 8, 16} {
		l = append(l, entry("t", n))
	}
	for _, n := range []int{1, 2, 255, 256, 257, 4094, 4095} {
		l = append(l, catalog.Entry{Table: table("t", 2), Current: n}, catalog.Entry{Table: table("t", 2), Current: 7, History: n}, catalog.Entry{Table: table("t", 2), Current: n, History: n})
	}
	for _, n := range []int64{0, 1, -1, 255, 256, -256, 1 << 32, math.MinInt64, math.MinInt64 + 1, math.MaxInt64 - 1, math.MaxInt64} {
		l = append(l, catalog.Entry{Table: table("t", 2), Current: 7, Mark: n})
	}
	// A history is not held against the table.
	versioned, period := table("t", 2), table("t", 4)
	versioned.Versioned = true
	period.Columns[3] = schema.Column{Name: "until", Kind: api.Int, NotNull: true}
	period.Columns[2] = schema.Column{Name: "since", Kind: api.Int, NotNull: true}
	period.Period, period.From, period.To, period.Apart = "stay", 2, 3, true
	return append(l, catalog.Entry{Table: versioned, Current: 7}, catalog.Entry{Table: versioned, Current: 7, History: 9}, catalog.Entry{Table: period, Current: 7})
}

// notValid are entries that are not valid.
func notValid() []catalog.Entry {
	l := []catalog.Entry{{}, {Current: 7}, {Table: table("T", 2), Current: 7}, {Table: table("", 2), Current: 7}, {Table: table("t", 0), Current: 7}, {Table: table("t", 17), Current: 7}}
	l = append(l, catalog.Entry{Table: table("t", 2)}, catalog.Entry{Table: table("t", 2), History: 7})
	for _, n := range wrongPages() {
		l = append(l, catalog.Entry{Table: table("t", 2), Current: n}, catalog.Entry{Table: table("t", 2), Current: n, History: 7}, catalog.Entry{Table: table("t", 2), Current: 7, History: n})
	}
	return l
}

func TestP16_2Put(t *testing.T) {
	_, c := fresh(t)
	m := model{}
	must(t, "Put", c.Put(entry("s", 3)))
	must(t, "Put", m.put(entry("s", 3)))
	for _, x := range valid() {
		must(t, "Put", c.Put(x))
		must(t, "Put", m.put(x))
		check(t, c, m)
	}
}

func TestP16_2PutForm(t *testing.T) {
	p, c := fresh(t)
	must(t, "Put", c.Put(entry("t", 3)))
	before := view(t, p)
	for _, x := range notValid() {
		wants(t, "Put", c.Put(x), api.ErrForm)
	}
	if view(t, p) != before {
		t.Error("an entry that is not valid changes something")
	}
	check(t, c, model{tables: []catalog.Entry{entry("t", 3)}})
}

// full is a catalog with as many tables as there can be, t0 to t15, and as many indexes, x0 to x15, of t3 and t4.
func full(t *testing.T, c *catalog.Catalog) model {
	t.Helper()
	var m model
	for i := range api.MaxTables {
		x := entry("t"+strconv.Itoa(i), 1+i)
		must(t, "Put", c.Put(x))
		must(t, "Put", m.put(x))
	}
	for i := range api.MaxTables {
		x := index("x"+strconv.Itoa(i), "t"+strconv.Itoa(3+i%2), i%4)
		must(t, "PutIndex", c.PutIndex(x))
		must(t, "PutIndex", m.putIndex(x))
	}
	check(t, c, m)
	return m
}

func TestP16_2PutFull(t *testing.T) {
	p, c := fresh(t)
	m := full(t, c)
	before := view(t, p)
	for _, s := range []string{"t16", "a", "x0", "z"} {
		wants(t, "Put", c.Put(entry(s, 2)), api.ErrFull)
	}
	for _, x := range notValid() {
		wants(t, "Put", c.Put(x), api.ErrForm)
	}
	if view(t, p) != before {
		t.Error("an entry that is too many changes something")
	}
	for i := range api.MaxTables {
		x := entry("t"+strconv.Itoa(i), 16-i)
		must(t, "Put", c.Put(x))
		must(t, "Put", m.put(x))
	}
	check(t, c, m)
	must(t, "Del", c.Del("t9"))
	must(t, "Del", m.del("t9"))
	must(t, "Put", c.Put(entry("t16", 2)))
	must(t, "Put", m.put(entry("t16", 2)))
	wants(t, "Put", c.Put(entry("t9", 2)), api.ErrFull)
	check(t, c, m)
}

func TestP16_2Del(t *testing.T) {
	p, c := fresh(t)
	m := full(t, c)
	before := view(t, p)
	for _, s := range append(noTables(), "t16", "t", "x0", "t03", "column_number_0") {
		wants(t, "Del", c.Del(s), api.ErrTable)
	}
	if view(t, p) != before {
		t.Error("Del of no table changes something")
	}
	for i := range api.MaxTables {
		s := "t" + strconv.Itoa(i*7%16)
		must(t, "Del", c.Del(s))
		must(t, "Del", m.del(s))
		check(t, c, m)
		wants(t, "Del", c.Del(s), api.ErrTable)
	}
	if len(pairs(t, p, c)) != 0 {
		t.Error("the tree has pairs")
	}
	// A table of the same name has none of the old indexes.
	must(t, "Put", c.Put(entry("t3", 5)))
	check(t, c, model{tables: []catalog.Entry{entry("t3", 5)}})
}

func TestP16_2GetNone(t *testing.T) {
	_, c := fresh(t)
	must(t, "Put", c.Put(entry("t", 3)))
	must(t, "PutIndex", c.PutIndex(index("i", "t", 0)))
	for _, s := range append(noTables(), "i", "tt", "tt3", "xi", "column_number_0") {
		if x, code := c.Get(s); !same(x, catalog.Entry{}) || code != api.ErrTable {
			t.Errorf("Get(%.100q) = %+v %v", s, x, code)
		}
		if l, code := c.Indexes(s); len(l) != 0 || code != api.OK {
			t.Errorf("Indexes(%.100q) = %+v %v", s, l, code)
		}
	}
}

func TestP16_3Indexes(t *testing.T) {
	_, c := fresh(t)
	m := model{tables: []catalog.Entry{entry("a", 16), entry("b", 3), entry("aa", 3), entry("x", 3)}}
	for _, x := range m.tables {
		must(t, "Put", c.Put(x))
	}
	for i, s := range []string{"b", "a", "t", "x", "_", "a1", "aa", "a_", "z", "b1"} {
		x := index(s, m.tables[i%3].Table.Name, i%3)
		must(t, "PutIndex", c.PutIndex(x))
		must(t, "PutIndex", m.putIndex(x))
		check(t, c, m)
	}
	want := []catalog.IndexEntry{index("b", "a", 0), index("b1", "a", 0), index("aa", "a", 0), index("x", "a", 0)}
	slices.SortFunc(want, func(a, b catalog.IndexEntry) int { return strings.Compare(a.Index.Name, b.Index.Name) })
	if l, code := c.Indexes("a"); !slices.Equal(l, want) || code != api.OK {
		t.Errorf("Indexes = %+v %v, want %+v", l, code, want)
	}
	// The indexes stay when their table is put again, even with fewer columns.
	for _, n := range []int{3, 1} {
		must(t, "Put", c.Put(entry("a", n)))
		must(t, "Put", m.put(entry("a", n)))
		check(t, c, m)
	}
}

func TestP16_3PutIndex(t *testing.T) {
	_, c := fresh(t)
	m := model{tables: []catalog.Entry{entry("t", 16)}}
	must(t, "Put", c.Put(entry("t", 16)))
	long := strings.Repeat("i", 20)
	for i, root := range []int{1, 2, 255, 256, 257, 4094, 4095} {
		for j, name := range []string{"i", long} {
			x := catalog.IndexEntry{Index: schema.Index{Name: name[j:] + strconv.Itoa(i), Table: "t", Column: 15 - 2*i - j}, Root: root}
			must(t, "PutIndex", c.PutIndex(x))
			must(t, "PutIndex", m.putIndex(x))
			check(t, c, m)
		}
	}
}

// notValidIndexes are index entries that are not valid.
func notValidIndexes() []catalog.IndexEntry {
	l := []catalog.IndexEntry{{}, {Root: 7}, index("i", "", 0), index("", "t3", 0), index("I", "t3", 0), index("i", "T3", 0), index("i", "t3", -1), index("i", "t3", 16), index("i", "t3", math.MaxInt), index(strings.Repeat("i", 21), "t3", 0)}
	for _, n := range append(wrongPages(), 0) {
		x := index("i", "t3", 0)
		x.Root = n
		l = append(l, x)
	}
	return l
}

// refusals holds the errors of PutIndex, also those of several at once, of a catalog with the table t3 and the index x0: the one that the chapter names first counts.
func refusals(t *testing.T, p *pager.Pager, c *catalog.Catalog) {
	t.Helper()
	before := view(t, p)
	for _, x := range notValidIndexes() {
		wants(t, "PutIndex", c.PutIndex(x), api.ErrForm)
	}
	for _, x := range []catalog.IndexEntry{index("new", "none", 0), index("new", "t", 0), index("new", "none", 15), index("x0", "none", 0), index("x0", "none", 15), index("new", "x0", 0)} {
		wants(t, "PutIndex", c.PutIndex(x), api.ErrTable)
	}
	for _, x := range []catalog.IndexEntry{index("new", "t3", 4), index("new", "t3", 5), index("new", "t3", 15), index("x0", "t3", 4)} {
		wants(t, "PutIndex", c.PutIndex(x), api.ErrColumn)
	}
	for _, x := range []catalog.IndexEntry{index("x0", "t3", 0), index("x0", "t3", 3)} {
		wants(t, "PutIndex", c.PutIndex(x), api.ErrThere)
	}
	if view(t, p) != before {
		t.Error("an error changes something")
	}
}

func TestP16_3PutIndexErrors(t *testing.T) {
	p, c := fresh(t)
	must(t, "Put", c.Put(entry("t3", 4)))
	must(t, "PutIndex", c.PutIndex(index("x0", "t3", 0)))
	refusals(t, p, c)
	for i := 1; i < api.MaxTables; i++ {
		must(t, "PutIndex", c.PutIndex(index("x"+strconv.Itoa(i), "t3", i%4)))
	}
	refusals(t, p, c)
	wants(t, "PutIndex", c.PutIndex(index("new", "t3", 0)), api.ErrFull)
	must(t, "DelIndex", c.DelIndex("x7"))
	must(t, "PutIndex", c.PutIndex(index("new", "t3", 0)))
	wants(t, "PutIndex", c.PutIndex(index("x7", "t3", 0)), api.ErrFull)
	// An index of another table counts as well, and its name is taken.
	must(t, "Put", c.Put(entry("t4", 4)))
	wants(t, "PutIndex", c.PutIndex(index("x7", "t4", 0)), api.ErrFull)
	wants(t, "PutIndex", c.PutIndex(index("x1", "t4", 0)), api.ErrThere)
}

func TestP16_3DelIndex(t *testing.T) {
	p, c := fresh(t)
	m := full(t, c)
	before := view(t, p)
	for _, s := range append(noTables(), "t0", "t3", "x", "x16", "x00") {
		wants(t, "DelIndex", c.DelIndex(s), api.ErrNone)
	}
	if view(t, p) != before {
		t.Error("DelIndex of no index changes something")
	}
	for i := range api.MaxTables {
		s := "x" + strconv.Itoa(i*7%16)
		must(t, "DelIndex", c.DelIndex(s))
		must(t, "DelIndex", m.delIndex(s))
		check(t, c, m)
		wants(t, "DelIndex", c.DelIndex(s), api.ErrNone)
	}
}

// TestP16_3OneName has a table and an index of the same name.
func TestP16_3OneName(t *testing.T) {
	_, c := fresh(t)
	m := model{tables: []catalog.Entry{entry("t", 2), entry("x", 3)}, indexes: []catalog.IndexEntry{index("t", "x", 2), index("x", "t", 1)}}
	for _, x := range m.tables {
		must(t, "Put", c.Put(x))
	}
	for _, x := range m.indexes {
		must(t, "PutIndex", c.PutIndex(x))
	}
	check(t, c, m)
	must(t, "DelIndex", c.DelIndex("x"))
	must(t, "DelIndex", m.delIndex("x"))
	check(t, c, m)
	must(t, "Del", c.Del("t"))
	must(t, "Del", m.del("t"))
	check(t, c, m)
	must(t, "Del", c.Del("x"))
	check(t, c, model{})
}

// TestP16_3NoTransaction has changes without a transaction: that is the error that comes last.
func TestP16_3NoTransaction(t *testing.T) {
	d := disk(t)
	p := begun(t, d)
	c := create(t, p)
	m := full(t, c)
	must(t, "Commit", p.Commit())
	check(t, c, m)
	for _, x := range m.tables {
		wants(t, "Put", c.Put(x), api.ErrTx)
		wants(t, "Del", c.Del(x.Table.Name), api.ErrTx)
	}
	wants(t, "DelIndex", c.DelIndex("x3"), api.ErrTx)
	wants(t, "Put", c.Put(catalog.Entry{}), api.ErrForm)
	wants(t, "Put", c.Put(entry("new", 2)), api.ErrFull)
	wants(t, "Del", c.Del("new"), api.ErrTable)
	wants(t, "PutIndex", c.PutIndex(catalog.IndexEntry{}), api.ErrForm)
	wants(t, "PutIndex", c.PutIndex(index("new", "new", 0)), api.ErrTable)
	wants(t, "PutIndex", c.PutIndex(index("new", "t3", 4)), api.ErrColumn)
	wants(t, "PutIndex", c.PutIndex(index("x3", "t3", 0)), api.ErrThere)
	wants(t, "PutIndex", c.PutIndex(index("new", "t3", 0)), api.ErrFull)
	wants(t, "DelIndex", c.DelIndex("new"), api.ErrNone)
	check(t, c, m)
	must(t, "Begin", p.Begin())
	must(t, "DelIndex", c.DelIndex("x3"))
	must(t, "Del", c.Del("t0"))
	must(t, "Del", m.del("t0"))
	must(t, "DelIndex", m.delIndex("x3"))
	must(t, "Commit", p.Commit())
	wants(t, "Put", c.Put(entry("new", 2)), api.ErrTx)
	wants(t, "PutIndex", c.PutIndex(index("new", "t3", 0)), api.ErrTx)
	check(t, c, m)
}

// TestP16_3TreeErrors has catalogs of which the tree cannot be read.
func TestP16_3TreeErrors(t *testing.T) {
	p, c := fresh(t)
	full(t, c)
	for root, want := range map[int]api.Errno{0: api.ErrArg, -1: api.ErrArg, p.Pages(): api.ErrArg, 4096: api.ErrArg, math.MaxInt: api.ErrArg, math.MinInt: api.ErrArg} {
		for i, code := range calls(t, catalog.Open(p, root), entry("t3", 4), index("x0", "t3", 0)) {
			wants(t, "call "+strconv.Itoa(i)+" with the root "+strconv.Itoa(root), code, want)
		}
	}
	for _, b := range [][]byte{make([]byte, 512), bytes.Repeat([]byte{7}, 512), append([]byte{1, 0, 1}, bytes.Repeat([]byte{255}, 509)...)} {
		must(t, "Put", p.Put(c.Root(), b))
		for i, code := range calls(t, c, entry("t3", 4), index("x0", "t3", 0)) {
			wants(t, "call "+strconv.Itoa(i)+" without a node", code, api.ErrCorrupt)
		}
	}
	// The errors of the arguments alone come first.
	wants(t, "Put", c.Put(catalog.Entry{}), api.ErrForm)
	wants(t, "PutIndex", c.PutIndex(catalog.IndexEntry{}), api.ErrForm)
}

func TestP16_3Down(t *testing.T) {
	d := disk(t)
	p := begun(t, d)
	c := create(t, p)
	m := full(t, c)
	must(t, "Commit", p.Commit())
	for _, in := range []bool{false, true} {
		if in {
			must(t, "Begin", p.Begin())
		}
		down(d)
		for i, code := range calls(t, c, entry("t3", 4), index("x0", "t3", 0)) {
			wants(t, "call "+strconv.Itoa(i)+" on a disk that is down", code, api.ErrDown)
		}
		must(t, "Crash", d.Crash(nil))
		check(t, c, m)
	}
}

// TestP16_3Circle has trees whose nodes form circles.
func TestP16_3Circle(t *testing.T) {
	p, c := fresh(t)
	must(t, "Put", c.Put(entry("t", 1)))
	must(t, "Put", c.Put(entry("u", 1)))
	root, code := p.Get(c.Root())
	must(t, "Get", code)
	leaf, code := p.Alloc()
	must(t, "Alloc", code)
	must(t, "Put", p.Put(leaf, root))
	for _, kids := range [][2]int{{leaf, c.Root()}, {c.Root(), leaf}, {leaf, leaf}, {c.Root(), c.Root()}} {
		b := make([]byte, 512)
		copy(b, []byte{2, 0, 1, 0, 0, 0, byte(kids[0]), 1, 'v', 0, 0, 0, byte(kids[1])})
		must(t, "Put", p.Put(c.Root(), b))
		for i, code := range calls(t, c, entry("t", 1), index("x0", "t", 0)) {
			wants(t, "call "+strconv.Itoa(i)+" in a circle", code, api.ErrCorrupt)
		}
	}
	must(t, "Put", p.Put(c.Root(), root))
	check(t, c, model{tables: []catalog.Entry{entry("t", 1), entry("u", 1)}})
}

// TestP16_4Memory holds that entries share no memory with each other or with arguments.
func TestP16_4Memory(t *testing.T) {
	p, c := fresh(t)
	x := entry("t", 3)
	must(t, "Put", c.Put(x))
	if !same(x, entry("t", 3)) {
		t.Errorf("Put has made its argument %+v", x)
	}
	clear(x.Table.Columns)
	clear(x.Table.Key)
	must(t, "PutIndex", c.PutIndex(index("i", "t", 0)))
	a, _ := c.Get("t")
	b, _ := c.Get("t")
	clear(a.Table.Columns)
	clear(a.Table.Key)
	names, _ := c.Tables()
	clear(names)
	l, _ := c.Indexes("t")
	clear(l)
	if !same(b, entry("t", 3)) {
		t.Errorf("Get = %+v", b)
	}
	check(t, catalog.Open(p, c.Root()), model{[]catalog.Entry{entry("t", 3)}, []catalog.IndexEntry{index("i", "t", 0)}})
	check(t, c, model{[]catalog.Entry{entry("t", 3)}, []catalog.IndexEntry{index("i", "t", 0)}})
}

// TestP16_4Pages holds that the pages of what was removed are free again.
func TestP16_4Pages(t *testing.T) {
	p, c := fresh(t)
	full(t, c)
	pages := p.Pages()
	for range 20 {
		for i := range api.MaxTables {
			must(t, "Del", c.Del("t"+strconv.Itoa(i)))
		}
		full(t, c)
	}
	if p.Pages() != pages {
		t.Errorf("%d pages, want %d", p.Pages(), pages)
	}
	must(t, "Drop", btree.Open(p, c.Root()).Drop())
}
