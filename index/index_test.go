package index_test

import (
	"bytes"
	"math"
	"slices"
	"strings"
	"testing"

	"hindsight/api"
	"hindsight/btree"
	"hindsight/index"
	"hindsight/node"
	"hindsight/pager"
	"hindsight/schema"
)

func TestP18_1New(t *testing.T) {
	d := disk(t)
	p := begun(t, d)
	n := root(t, p)
	for column := range 4 {
		// An index is what its tree has.
		l := in(column, null, "k")
		if column == 3 {
			l[3] = text("k")
		}
		must(t, "Add", opened(t, p, mixed(), of(column), n).Add(l))
		if l, code := opened(t, p, mixed(), of(column), n).All(); len(l) == 0 || l[0] != "\x12k\x00\x01" || code != api.OK {
			t.Errorf("All = %q %v", l, code)
		}
	}
	must(t, "Commit", p.Commit())
	// Nothing is read by New.
	down(d)
	for _, p := range []*pager.Pager{p, nil, {}} {
		for _, root := range []int{n, 0, -1, 4095, 4096, math.MinInt, math.MaxInt} {
			opened(t, p, mixed(), of(1), root)
		}
	}
}

func TestP18_1NewForm(t *testing.T) {
	p := begun(t, disk(t))
	refused := func(t *testing.T, x schema.Table, i schema.Index) {
		t.Helper()
		for _, p := range []*pager.Pager{p, nil} {
			for _, root := range []int{1, -1} {
				if a, code := index.New(p, x, i, root); a != nil || code != api.ErrForm {
					t.Errorf("New(%+v, %+v) = %v %v", x, i, a, code)
				}
			}
		}
	}
	for _, column := range []int{-1, 4, 5, 15, 16, 256, 1 << 32, math.MinInt, math.MaxInt} {
		refused(t, mixed(), of(column))
	}
	for _, name := range []string{"", "u", "T", "t ", "tt", strings.Repeat("t", 1<<16)} {
		refused(t, mixed(), schema.Index{Name: "x", Table: name})
	}
	refused(t, schema.Table{}, schema.Index{})
	for _, change := range []func(x *schema.Table){
		func(x *schema.Table) { x.Name = "u" },
		func(x *schema.Table) { x.Columns = nil },
		func(x *schema.Table) { x.Columns[0].Kind = 0 },
		func(x *schema.Table) { x.Key = nil },
		func(x *schema.Table) { x.Columns[3].NotNull = false },
		func(x *schema.Table) { x.Apart = true },
		func(x *schema.Table) { x.To = 0 },
	} {
		x := mixed()
		change(&x)
		refused(t, x, of(1))
	}
	x := mixed()
	x.Name = "T"
	refused(t, x, schema.Index{Name: "x", Table: "T"})
}

func TestP18_1NoIndex(t *testing.T) {
	for _, x := range []*index.Index{nil, {}, new(index.Index)} {
		for _, l := range []values{nil, in(1, null, "k"), {{Kind: 9}}} {
			for _, v := range []api.Value{null, number(1), {Kind: 9}} {
				for _, code := range calls(t, x, l, v) {
					wants(t, "a call without an index", code, api.ErrNil)
				}
			}
		}
	}
	// An index of no pager is one, but nothing can be read.
	for _, p := range []*pager.Pager{nil, {}} {
		for _, code := range calls(t, opened(t, p, mixed(), of(1), 1), in(1, null, "k"), null) {
			wants(t, "a call without a pager", code, api.ErrNil)
		}
	}
}

// TestP18_1Arguments changes what New was given, and what the calls were given and returned.
func TestP18_1Arguments(t *testing.T) {
	p := begun(t, disk(t))
	y := mixed()
	x := opened(t, p, y, of(1), root(t, p))
	y.Columns[1], y.Columns[3], y.Key[0] = schema.Column{}, schema.Column{}, 9
	l := append(in(1, text("v"), "k"), number(7))[:4]
	must(t, "Add", x.Add(l))
	if !slices.Equal(l[:5], append(in(1, text("v"), "k"), number(7))) {
		t.Errorf("Add has changed its argument: %v", l)
	}
	clear(l)
	for range 2 {
		a, _ := x.Find(text("v"))
		b, _ := x.All()
		if want := []string{"\x12k\x00\x01"}; !slices.Equal(a, want) || !slices.Equal(b, want) {
			t.Errorf("Find = %q, All = %q", a, b)
		}
		clear(a)
		clear(b)
	}
	must(t, "Del", x.Del(in(1, text("v"), "k")))
}

// TestP18_2Tree has the keys of the tree be those of the chapter, byte by byte.
func TestP18_2Tree(t *testing.T) {
	x15, x18 := strings.Repeat("x", 15), strings.Repeat("x", 18)
	for _, c := range []struct {
		column int
		v      api.Value
		want   string
	}{
		{0, null, "\x01\x10"}, {1, null, "\x01\x10"}, {2, null, "\x01\x10"},
		{0, number(0), "\x09\x11\x80\x00\x00\x00\x00\x00\x00\x00"}, {0, number(-1), "\x09\x11\x7f\xff\xff\xff\xff\xff\xff\xff"}, {0, number(math.MaxInt64), "\x09\x11\xff\xff\xff\xff\xff\xff\xff\xff"},
		{1, text(""), "\x03\x12\x00\x01"}, {2, blob(""), "\x03\x13\x00\x01"}, {1, text("x"), "\x04\x12x\x00\x01"}, {2, blob("\x00"), "\x05\x13\x00\xff\x00\x01"},
		{1, text(x15[:14]), "\x11\x12" + x15[:14] + "\x00\x01"}, {1, text(x15), "\x12\x12" + x15 + "\x00\x01"}, {1, text(x15 + "x"), "\x12\x12" + x15 + "x\x00"}, {1, text(x15 + "xx"), "\x12\x12" + x15 + "xx"}, {2, blob(x18), "\x12\x13" + x15 + "xx"},
		{1, text(x15 + "xy"), "\x12\x12" + x15 + "xy"}, {1, text(x15 + "xxyz"), "\x12\x12" + x15 + "xx"}, {1, text(x15 + "\x00x"), "\x12\x12" + x15 + "\x00\xff"}, {1, text(x15 + "x\x00"), "\x12\x12" + x15 + "x\x00"},
		// The longest text whose key is not too long, and longer ones.
		{1, text(strings.Repeat("x", 97)), "\x12\x12" + x15 + "xx"}, {1, text(strings.Repeat("x", 98)), "\x12\x12" + x15 + "xx"}, {2, blob(x15 + strings.Repeat("y", 8000)), "\x12\x13" + x15 + "yy"}, {2, blob(strings.Repeat("x", 1<<16)), "\x12\x13" + x15 + "xx"},
		{1, text(strings.Repeat("\x00", 48)), "\x12\x12" + strings.Repeat("\x00\xff", 8) + "\x00"}, {1, text(strings.Repeat("\x00", 49)), "\x12\x12" + strings.Repeat("\x00\xff", 8) + "\x00"}, {1, text(strings.Repeat("\x00", 5000)), "\x12\x12" + strings.Repeat("\x00\xff", 8) + "\x00"},
	} {
		for _, id := range []string{"", "k", strings.Repeat("k", 77)} {
			p, x := fresh(t, c.column)
			l := in(c.column, c.v, id)
			must(t, "Add", x.Add(l))
			v, is, code := btree.Open(p, 1).Get(c.want + "\x12" + id + "\x00\x01")
			if len(v) != 0 || !is || code != api.OK {
				t.Errorf("the tree of %v has %q %v %v", l, v, is, code)
			}
			check(t, p, 1, x, c.column, model{placeOf(t, c.column, l): l})
			must(t, "Del", x.Del(l))
			check(t, p, 1, x, c.column, nil)
		}
	}
}

func TestP18_2Errors(t *testing.T) {
	for column := range 4 {
		p, x := fresh(t, column)
		must(t, "Add", x.Add(in(0, number(1), "k")))
		before := pages(t, p)
		for _, c := range []struct {
			l    values
			want api.Errno
		}{
			{nil, api.ErrArg}, {values{}, api.ErrArg}, {make(values, 3), api.ErrArg}, {make(values, 5), api.ErrArg}, {make(values, 99), api.ErrArg},
			{make(values, 4), api.ErrNull}, {in(0, text("x"), "k"), api.ErrType}, {in(1, number(1), "k"), api.ErrType}, {in(2, text("x"), "k"), api.ErrType},
			{in(0, api.Value{Kind: 9}, "k"), api.ErrForm}, {in(1, api.Value{Kind: api.Text, Int: 1}, "k"), api.ErrForm}, {in(2, api.Value{Text: "x"}, "k"), api.ErrForm},
			{in(1, text("x"), strings.Repeat("k", 78)), api.ErrLong}, {in(1, text("x"), strings.Repeat("k", 8000)), api.ErrLong},
		} {
			wants(t, "Add", x.Add(c.l), c.want)
			wants(t, "Del", x.Del(c.l), c.want)
		}
		for _, v := range []api.Value{{Kind: 9}, {Kind: 4}, {Kind: 255}, {Int: 1}, {Text: "x"}, {Kind: api.Int, Text: "x"}, {Kind: api.Text, Int: 1}, {Kind: api.Blob, Int: 1, Text: strings.Repeat("x", 200)}} {
			if l, code := x.Find(v); len(l) != 0 || code != api.ErrForm {
				t.Errorf("Find(%v) = %q %v", v, l, code)
			}
		}
		if pages(t, p) != before {
			t.Error("an error changes something")
		}
	}
}

func TestP18_2Del(t *testing.T) {
	p, x := fresh(t, 1)
	m := model{}
	l := []values{in(1, text("v"), "a"), in(1, text("v"), "b"), in(1, text("w"), "c"), in(1, null, "d"), in(1, text(strings.Repeat("v", 100)), "e")}
	for range 2 {
		for _, row := range l {
			wants(t, "Del", x.Del(row), api.ErrNone)
			// What is added twice is there once.
			must(t, "Add", x.Add(row))
			must(t, "Add", x.Add(row))
			m[placeOf(t, 1, row)] = row
			check(t, p, 1, x, 1, m)
		}
		for _, row := range []values{in(1, text("w"), "a"), in(1, text("v"), "c"), in(1, text(""), "d"), in(1, text("v"), ""), in(1, null, "a"), in(1, text(strings.Repeat("v", 17)), "a")} {
			wants(t, "Del", x.Del(row), api.ErrNone)
		}
		check(t, p, 1, x, 1, m)
		for _, row := range l {
			must(t, "Del", x.Del(row))
			delete(m, placeOf(t, 1, row))
			check(t, p, 1, x, 1, m)
			wants(t, "Del", x.Del(row), api.ErrNone)
		}
	}
	// Other columns make no difference, and a value with the same front none that could be told.
	must(t, "Add", x.Add(in(1, text(strings.Repeat("v", 50)+"w"), "a")))
	row := in(1, text(strings.Repeat("v", 50)+"z"), "a")
	row[0] = number(5)
	must(t, "Del", x.Del(row))
	check(t, p, 1, x, 1, nil)
}

// TestP18_2Find finds values with fronts that begin with one another, in increasing order of keys, whatever the kind of the column.
func TestP18_2Find(t *testing.T) {
	x17 := strings.Repeat("x", 17)
	l := []api.Value{null, text(""), text("\x00"), text("\x00\x01"), text("x"), text("x\x00"), text("xx"), text(x17[:14]), text(x17[:15]), text(x17[:16]), text(x17), text(x17 + "y"), text(x17 + "z"), text(strings.Repeat("x", 97)), text(strings.Repeat("x", 98)), text("y")}
	p, x := fresh(t, 1)
	m := model{}
	for i := range 8 * len(l) {
		id := string(rune('a' + i*5%26))
		row := in(1, l[i%len(l)], id)
		must(t, "Add", x.Add(row))
		m[placeOf(t, 1, row)] = row
	}
	check(t, p, 1, x, 1, m)
	for _, v := range append(l, number(0), number(120), blob(""), blob("x"), blob(x17), text("z"), text("xxx"), text(strings.Repeat("z", 1<<16)), text(strings.Repeat("x", 1<<16))) {
		finds(t, x, 1, m, v)
	}
	if l, _ := x.Find(text(x17)); len(l) < 20 {
		t.Errorf("%d rows", len(l))
	}
}

// TestP18_4Model holds random changes against the model, across transactions that are committed, rolled back, or interrupted by a crash.
func TestP18_4Model(t *testing.T) {
	for column := range 3 {
		d := disk(t)
		p := begun(t, d)
		n := root(t, p)
		x := opened(t, p, mixed(), of(column), n)
		must(t, "Commit", p.Commit())
		m, kept := model{}, model{}
		next := chance(column)
		most := 0
		for range 60 {
			must(t, "Begin", p.Begin())
			for range next.below(20) {
				row := in(column, next.value(column), strings.Repeat("k", next.below(4)*25))
				place := placeOf(t, column, row)
				_, is := m[place]
				switch {
				case next.below(3) > 0:
					must(t, "Add", x.Add(row))
					m[place] = row
				case is:
					must(t, "Del", x.Del(row))
					delete(m, place)
				default:
					wants(t, "Del", x.Del(row), api.ErrNone)
				}
			}
			check(t, p, n, x, column, m)
			most = max(most, len(m))
			finds(t, x, column, m, next.value(column))
			if next.below(3) == 0 {
				must(t, "Crash", d.Crash(bytes.Repeat([]byte{255}, 9)))
				p = open(t, d)
				m = kept
			} else {
				must(t, "Commit", p.Commit())
			}
			kept = model{}
			for k, row := range m {
				kept[k] = row
			}
			x = opened(t, p, mixed(), of(column), n)
			check(t, p, n, x, column, m)
		}
		if most < 20 {
			t.Errorf("there are at most %d rows", most)
		}
	}
}

// TestP18_4Integers finds the rows with an integer, and no others.
func TestP18_4Integers(t *testing.T) {
	_, x := fresh(t, 0)
	l := []int64{math.MinInt64, math.MinInt64 + 1, -1 << 32, -257, -256, -255, -1, 0, 1, 255, 256, 257, 1 << 32, math.MaxInt64 - 1, math.MaxInt64}
	for _, n := range l {
		must(t, "Add", x.Add(in(0, number(n), "a")))
		must(t, "Add", x.Add(in(0, number(n), "")))
		must(t, "Add", x.Add(in(0, null, "n")))
		if found, code := x.Find(number(n)); !slices.Equal(found, []string{"\x12\x00\x01", "\x12a\x00\x01"}) || code != api.OK {
			t.Errorf("Find(%d) = %q %v", n, found, code)
		}
	}
	for _, n := range l {
		must(t, "Del", x.Del(in(0, number(n), "a")))
		if found, code := x.Find(number(n)); !slices.Equal(found, []string{"\x12\x00\x01"}) || code != api.OK {
			t.Errorf("Find(%d) = %q %v", n, found, code)
		}
		must(t, "Del", x.Del(in(0, number(n), "")))
		if found, code := x.Find(number(n)); len(found) != 0 || code != api.OK {
			t.Errorf("Find(%d) = %q %v", n, found, code)
		}
	}
	if found, code := x.All(); !slices.Equal(found, []string{"\x12n\x00\x01"}) || code != api.OK {
		t.Errorf("All = %q %v", found, code)
	}
}

func TestP18_2Transaction(t *testing.T) {
	d := disk(t)
	p := begun(t, d)
	x := opened(t, p, mixed(), of(1), root(t, p))
	must(t, "Add", x.Add(in(1, text("v"), "k")))
	must(t, "Commit", p.Commit())
	before, changes := pages(t, p), d.Calls()
	wants(t, "Add", x.Add(in(1, text("v"), "k")), api.ErrTx)
	wants(t, "Add", x.Add(in(1, text("v"), "l")), api.ErrTx)
	wants(t, "Del", x.Del(in(1, text("v"), "k")), api.ErrTx)
	// All other errors are told ahead of that one.
	wants(t, "Add", x.Add(nil), api.ErrArg)
	wants(t, "Del", x.Del(nil), api.ErrArg)
	wants(t, "Del", x.Del(in(1, text("v"), "l")), api.ErrNone)
	if pages(t, p) != before || d.Calls() != changes {
		t.Error("a call without a transaction changes something")
	}
	if l, code := x.All(); len(l) != 1 || code != api.OK {
		t.Errorf("All = %q %v", l, code)
	}
	must(t, "Begin", p.Begin())
	down(d)
	for _, code := range calls(t, x, in(1, text("v"), "k"), text("v")) {
		wants(t, "a call without a disk", code, api.ErrDown)
	}
	wants(t, "Add", x.Add(nil), api.ErrArg)
	if l, code := x.Find(api.Value{Kind: 9}); len(l) != 0 || code != api.ErrForm {
		t.Errorf("Find = %q %v", l, code)
	}
}

// TestP18_2NoRoom adds rows when there are no pages left: one that cannot be added changes nothing.
func TestP18_2NoRoom(t *testing.T) {
	p, x := fresh(t, 1)
	for range 4096 {
		p.Alloc()
	}
	must(t, "Free", p.Free(9))
	must(t, "Free", p.Free(8))
	must(t, "Free", p.Free(7))
	m := model{}
	failed := 0
	for i := range 30 {
		row := in(1, text(strings.Repeat("v", 20)), strings.Repeat("k", 40)+string(rune('a'+i*7%26)))
		before := pages(t, p)
		switch code := x.Add(row); {
		case code == api.OK:
			m[placeOf(t, 1, row)] = row
		case code != api.ErrFull || pages(t, p) != before:
			t.Fatalf("Add = %v, or it changes something", code)
		default:
			failed++
		}
		check(t, p, 1, x, 1, m)
	}
	if failed < 5 || len(m) < 5 {
		t.Errorf("%d rows are added, %d are not", len(m), failed)
	}
}

// TestP18_2Corrupt has keys in the tree that are those of no row.
func TestP18_2Corrupt(t *testing.T) {
	p, x := fresh(t, 1)
	tree := btree.Open(p, 1)
	row := in(1, text("v"), "k")
	must(t, "Add", x.Add(row))
	place := placeOf(t, 1, row)
	for _, k := range []string{"", "\x00", "\x00\x12k\x00\x01", "\x01", "\x02\x10", "\x04\x12v\x00\x01", "\x12", "\x12" + strings.Repeat("x", 18), "\x13" + strings.Repeat("x", 30), "k", "\xff", strings.Repeat("\xff", 100)} {
		must(t, "Put", tree.Put(k, nil))
		before := pages(t, p)
		if l, code := x.All(); len(l) != 0 || code != api.ErrCorrupt {
			t.Errorf("All with %q = %q %v", k, l, code)
		}
		if pages(t, p) != before {
			t.Error("an error changes something")
		}
		// A value is found if what is malformed does not begin as its front does.
		l, code := x.Find(text("v"))
		if isNear := strings.HasPrefix(k, place[:5]); isNear && (len(l) != 0 || code != api.ErrCorrupt) || !isNear && (len(l) != 1 || code != api.OK) {
			t.Errorf("Find with %q = %q %v", k, l, code)
		}
		_, code = tree.Del(k)
		must(t, "Del", code)
	}
	check(t, p, 1, x, 1, model{place: row})
	// A row's key that no row could have is the concern of others.
	must(t, "Put", tree.Put("\x01\x10junk", nil))
	if l, code := x.All(); !slices.Equal(l, []string{"junk", keyOf(t, mixed(), row)}) || code != api.OK {
		t.Errorf("All = %q %v", l, code)
	}
}

// TestP18_2Pages has trees whose pages are damaged or do not exist.
func TestP18_2Pages(t *testing.T) {
	p, x := fresh(t, 1)
	must(t, "Add", x.Add(in(1, text("v"), "k")))
	circle, code := node.Write(node.Node{Keys: []string{"\x04\x12w"}, Kids: []int{1, 2}})
	must(t, "Write", code)
	for _, b := range [][]byte{circle, make([]byte, 512)} {
		n, code := p.Alloc()
		must(t, "Alloc", code)
		must(t, "Put", p.Put(n, b))
	}
	before := pages(t, p)
	// In the circle the first kid is the tree with the row, and the second one the circle.
	if l, code := opened(t, p, mixed(), of(1), 2).All(); len(l) != 0 || code != api.ErrCorrupt {
		t.Errorf("All = %q %v", l, code)
	}
	for root, want := range map[int]api.Errno{3: api.ErrCorrupt, 0: api.ErrArg, -1: api.ErrArg, 4: api.ErrArg, 4096: api.ErrArg, math.MinInt: api.ErrArg, math.MaxInt: api.ErrArg} {
		for _, code := range calls(t, opened(t, p, mixed(), of(1), root), in(1, text("v"), "k"), text("v")) {
			wants(t, "a call with damaged pages", code, want)
		}
	}
	if pages(t, p) != before {
		t.Error("an error changes something")
	}
}
