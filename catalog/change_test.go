package catalog_test

import (
	"bytes"
	"slices"
	"strconv"
	"strings"
	"testing"

	"hindsight/api"
	"hindsight/btree"
	"hindsight/catalog"
	"hindsight/node"
	"hindsight/pager"
	"hindsight/vdisk"
)

// step makes a next change of a catalog and of a model, and holds the errors of both against each other.
func step(t *testing.T, c *catalog.Catalog, m *model, next *chance) {
	t.Helper()
	table, name := "t"+strconv.Itoa(next.below(20)), "x"+strconv.Itoa(next.below(20))
	switch next.below(10) {
	case 0, 1, 2, 3:
		x := entry(table, 1+next.below(16))
		wants(t, "Put", c.Put(x), m.put(x))
	case 4:
		wants(t, "Del", c.Del(table), m.del(table))
	case 5, 6, 7, 8:
		x := index(name, table, next.below(16))
		wants(t, "PutIndex", c.PutIndex(x), m.putIndex(x))
	case 9:
		wants(t, "DelIndex", c.DelIndex(name), m.delIndex(name))
	}
}

// TestP16_4Model holds random changes against the model, across transactions that are committed, rolled back, or interrupted by a crash.
func TestP16_4Model(t *testing.T) {
	d := disk(t)
	p := begun(t, d)
	c := create(t, p)
	root := c.Root()
	var m, kept model
	next := chance(1)
	most := 0
	for i := range 120 {
		for range next.below(12) {
			step(t, c, &m, &next)
			check(t, c, m)
		}
		most = max(most, len(m.tables)+len(m.indexes))
		switch next.below(6) {
		case 0:
			if i > 0 && len(kept.tables) > 0 {
				must(t, "Rollback", p.Rollback())
				m = kept.clone()
				break
			}
			fallthrough
		case 1, 2, 3:
			must(t, "Commit", p.Commit())
			kept = m.clone()
		case 4:
			must(t, "Commit", p.Commit())
			kept = m.clone()
			must(t, "Crash", d.Crash(nil))
			p = open(t, d)
		case 5:
			if len(kept.tables) > 0 {
				must(t, "Crash", d.Crash(bytes.Repeat([]byte{255}, 9)))
				p = open(t, d)
				m = kept.clone()
			}
		}
		c = catalog.Open(p, root)
		check(t, c, m)
		if !p.In() {
			must(t, "Begin", p.Begin())
		}
	}
	if most < 24 {
		t.Errorf("there are at most %d entries", most)
	}
}

// TestP2 has what was stored read back after a Commit and opening again, for entries of all kinds.
func TestP2(t *testing.T) {
	for _, x := range valid() {
		d := disk(t)
		p := begun(t, d)
		c := create(t, p)
		i := index("i", "t", len(x.Table.Columns)-1)
		m := model{[]catalog.Entry{x}, []catalog.IndexEntry{i}}
		must(t, "Put", c.Put(x))
		must(t, "PutIndex", c.PutIndex(i))
		must(t, "Commit", p.Commit())
		must(t, "Crash", d.Crash(nil))
		check(t, catalog.Open(open(t, d), c.Root()), m)
	}
}

// tampered are values that are not v.
func tampered(v []byte) [][]byte {
	l := [][]byte{nil, {0}, {255}, v[1:], append(bytes.Clone(v), 0), append(bytes.Clone(v), v...), append([]byte{0}, v...), make([]byte, len(v)), bytes.Repeat([]byte{255}, len(v)), bytes.Repeat([]byte{255}, 8192)}
	for i := range v {
		l = append(l, v[:i])
	}
	return l
}

// TestP16_3Corrupt has each stored entry malformed, one after the other and all of them.
func TestP16_3Corrupt(t *testing.T) {
	p, c := fresh(t)
	m := model{tables: []catalog.Entry{entry("t3", 4), entry("t4", 16), entry("u", 2)}, indexes: []catalog.IndexEntry{index("x0", "t3", 0), index("y", "t4", 3)}}
	for _, x := range m.tables {
		must(t, "Put", c.Put(x))
	}
	for _, x := range m.indexes {
		must(t, "PutIndex", c.PutIndex(x))
	}
	tree := btree.Open(p, c.Root())
	l := pairs(t, p, c)
	if len(l) != 5 {
		t.Fatalf("%d pairs", len(l))
	}
	holds := func() {
		t.Helper()
		before := view(t, p)
		for i, code := range append(calls(t, c, m.tables[0], index("new", "t3", 0)), c.DelIndex("x0")) {
			want := api.ErrCorrupt
			if i == 6 {
				want = api.ErrNone
			}
			wants(t, "call "+strconv.Itoa(i), code, want)
		}
		names(t, c)
		if view(t, p) != before {
			t.Error("an error changes something")
		}
	}
	for _, x := range l {
		for _, v := range tampered(x.Val) {
			must(t, "Put", tree.Put(x.Key, v))
			holds()
		}
		must(t, "Put", tree.Put(x.Key, x.Val))
		check(t, c, m)
	}
	for i := range 30 {
		for _, x := range l {
			v := tampered(x.Val)
			must(t, "Put", tree.Put(x.Key, v[i%len(v)]))
		}
		holds()
	}
}

// names holds the errors that are told by names alone, which come ahead of that of an entry that is malformed.
func names(t *testing.T, c *catalog.Catalog) {
	t.Helper()
	_, code := c.Get("none")
	wants(t, "Get", code, api.ErrTable)
	wants(t, "Del", c.Del("none"), api.ErrTable)
	wants(t, "PutIndex", c.PutIndex(index("new", "none", 0)), api.ErrTable)
	wants(t, "DelIndex", c.DelIndex("none"), api.ErrNone)
	wants(t, "Put", c.Put(catalog.Entry{}), api.ErrForm)
	wants(t, "PutIndex", c.PutIndex(catalog.IndexEntry{}), api.ErrForm)
}

// TestP16_3CorruptKeys has pairs under keys that are not theirs.
func TestP16_3CorruptKeys(t *testing.T) {
	p, c := fresh(t)
	must(t, "Put", c.Put(entry("t", 4)))
	must(t, "PutIndex", c.PutIndex(index("i", "t", 0)))
	m := model{[]catalog.Entry{entry("t", 4)}, []catalog.IndexEntry{index("i", "t", 0)}}
	tree := btree.Open(p, c.Root())
	l := pairs(t, p, c)
	keys := []string{"", "\x00", "\xff", "t", "x", "i", "a", "none", strings.Repeat("\xff", 100)}
	for _, x := range l {
		keys = append(keys, x.Key+"0", x.Key[:1]+"other", x.Key[1:], strings.ToUpper(x.Key), x.Key+x.Key)
	}
	for _, key := range keys {
		if slices.ContainsFunc(l, func(x btree.Pair) bool { return x.Key == key }) {
			continue
		}
		for _, v := range [][]byte{nil, {1}, l[0].Val, l[1].Val} {
			must(t, "Put", tree.Put(key, v))
			if s, code := c.Tables(); len(s) != 0 || code != api.ErrCorrupt {
				t.Errorf("Tables with the key %q = %q %v", key, s, code)
			}
			if x, code := c.Get("t"); !same(x, catalog.Entry{}) || code != api.ErrCorrupt {
				t.Errorf("Get with the key %q = %+v %v", key, x, code)
			}
			if l, code := c.Indexes("t"); len(l) != 0 || code != api.ErrCorrupt {
				t.Errorf("Indexes with the key %q = %+v %v", key, l, code)
			}
		}
		_, code := tree.Del(key)
		must(t, "Del", code)
	}
	// The values of the entries under the keys of each other.
	must(t, "Put", tree.Put(l[0].Key, l[1].Val))
	must(t, "Put", tree.Put(l[1].Key, l[0].Val))
	_, code := c.Get("t")
	wants(t, "Get", code, api.ErrCorrupt)
	must(t, "Put", tree.Put(l[0].Key, l[0].Val))
	must(t, "Put", tree.Put(l[1].Key, l[1].Val))
	check(t, c, m)
}

// TestP16_3ValueErrors has one entry that is malformed and one whose overflow page does not exist: the error of the tree comes first, and errors that names tell come ahead of both.
func TestP16_3ValueErrors(t *testing.T) {
	for _, bad := range []string{"a", "c"} {
		p, c := fresh(t)
		must(t, "Put", c.Put(entry(bad, 1)))
		must(t, "Put", c.Put(entry("b", 16)))
		l := pairs(t, p, c)
		n := leaf(btree.Pair{Key: l[0].Key, Val: []byte{1}}, btree.Pair{Key: l[1].Key, Val: []byte{1}})
		at := slices.IndexFunc(l, func(x btree.Pair) bool { return len(x.Val) > 120 })
		n.Cells[at] = node.Cell{Len: len(l[at].Val), Page: 4000}
		b, code := node.Write(n)
		must(t, "Write", code)
		must(t, "Put", p.Put(c.Root(), b))
		for _, name := range []string{bad, "b"} {
			for i, code := range calls(t, c, entry(name, 2), index("x", name, 0))[:6] {
				wants(t, "call "+strconv.Itoa(i), code, api.ErrArg)
			}
		}
		names(t, c)
	}
}

// TestP16_3CorruptBytes has each byte of the values take each value: what is read can be stored.
func TestP16_3CorruptBytes(t *testing.T) {
	p, c := fresh(t)
	must(t, "Put", c.Put(entry("t", 4)))
	must(t, "PutIndex", c.PutIndex(index("i", "t", 0)))
	tree := btree.Open(p, c.Root())
	read, corrupt := 0, 0
	for _, x := range pairs(t, p, c) {
		for i := range x.Val {
			for b := range 256 {
				v := bytes.Clone(x.Val)
				v[i] = byte(b)
				must(t, "Put", tree.Put(x.Key, v))
				e, code := c.Get("t")
				l, also := c.Indexes("t")
				_, other := c.Tables()
				if code != also || code != other {
					t.Fatalf("%v %v %v", code, also, other)
				}
				switch code {
				case api.OK:
					read++
					wants(t, "Put of what Get returned", put(p, c, e), api.OK)
					for _, i := range l {
						wants(t, "PutIndex of what Indexes returned", putIndex(p, c, i), api.OK)
					}
				case api.ErrCorrupt:
					corrupt++
				default:
					t.Fatalf("Get = %v", code)
				}
			}
		}
		must(t, "Put", tree.Put(x.Key, x.Val))
	}
	if read < 100 || corrupt < 1000 {
		t.Errorf("%d values are read, %d are not", read, corrupt)
	}
}

// put is the error of Put of an entry; nothing is changed.
func put(p *pager.Pager, c *catalog.Catalog, x catalog.Entry) api.Errno {
	save, _ := p.Save()
	code := c.Put(x)
	p.Back(save)
	p.Release(save)
	return code
}

// putIndex is the error of PutIndex of an index entry once that is removed, if there is still such a column; nothing is changed.
func putIndex(p *pager.Pager, c *catalog.Catalog, x catalog.IndexEntry) api.Errno {
	save, _ := p.Save()
	code := c.DelIndex(x.Index.Name)
	if e, _ := c.Get(x.Index.Table); code == api.OK && x.Index.Column < len(e.Table.Columns) {
		code = c.PutIndex(x)
	}
	p.Back(save)
	p.Release(save)
	return code
}

// TestP16_3NoRoom makes changes with few pages that are free: one that fails changes nothing.
func TestP16_3NoRoom(t *testing.T) {
	failed, done := 0, 0
	for _, free := range []int{0, 1, 2, 3, 5, 8} {
		p, c := fresh(t)
		m := model{}
		for i := range 9 {
			x, y := entry("t"+strconv.Itoa(i), 1+i), index("a_long_name_of_x"+strconv.Itoa(i), "t"+strconv.Itoa(i), 0)
			must(t, "Put", c.Put(x))
			must(t, "Put", m.put(x))
			must(t, "PutIndex", c.PutIndex(y))
			must(t, "PutIndex", m.putIndex(y))
		}
		fill(t, p, free)
		for range 3 {
			_, code := p.Save()
			must(t, "Save", code)
		}
		for i := range 16 {
			before, kept := view(t, p), m.clone()
			var code api.Errno
			if i%3 == 2 {
				y := index("another_long_name"+strconv.Itoa(i), "t1", 0)
				m.putIndex(y)
				code = c.PutIndex(y)
			} else {
				x := entry("t"+strconv.Itoa(i), 16)
				m.put(x)
				code = c.Put(x)
			}
			if code == api.OK {
				done++
			} else {
				failed++
				wants(t, "a change without room", code, api.ErrFull)
				if m = kept; view(t, p) != before {
					t.Fatal("a change that failed changes something")
				}
			}
			check(t, c, m)
		}
		// The savepoints are those that there were.
		wants(t, "Back", p.Back(4), api.ErrSave)
		n, code := p.Save()
		if n != 4 {
			t.Errorf("Save = %d %v", n, code)
		}
	}
	if failed < 20 || done < 20 {
		t.Errorf("%d changes failed, %d did not", failed, done)
	}
}

// TestP16_3DelFails has a tree whose leaves have different depths, so that the second pair of a Del cannot be removed: nothing is changed.
func TestP16_3DelFails(t *testing.T) {
	p, c := fresh(t)
	m := model{[]catalog.Entry{entry("a", 3), entry("b", 3), entry("c", 3)}, []catalog.IndexEntry{index("i", "a", 0), index("j", "b", 0)}}
	for _, x := range m.tables {
		must(t, "Put", c.Put(x))
	}
	for _, x := range m.indexes {
		must(t, "PutIndex", c.PutIndex(x))
	}
	l := pairs(t, p, c)
	inner := node.Node{Keys: []string{l[4].Key}, Kids: []int{add(t, p, leaf(l[3])), add(t, p, leaf(l[4]))}}
	root := node.Node{Keys: []string{l[3].Key}, Kids: []int{add(t, p, leaf(l[:3]...)), add(t, p, inner)}}
	b, code := node.Write(root)
	must(t, "Write", code)
	must(t, "Put", p.Put(c.Root(), b))
	check(t, c, m)
	before := view(t, p)
	wants(t, "Del", c.Del("a"), api.ErrCorrupt)
	if view(t, p) != before {
		t.Error("a Del that failed changes something")
	}
	check(t, c, m)
}

// leaf is the leaf of some pairs with short values.
func leaf(l ...btree.Pair) node.Node {
	n := node.Node{Leaf: true}
	for _, x := range l {
		n.Keys = append(n.Keys, x.Key)
		n.Cells = append(n.Cells, node.Cell{Len: len(x.Val), Data: string(x.Val)})
	}
	return n
}

// add is a new page of a node.
func add(t *testing.T, p *pager.Pager, n node.Node) int {
	t.Helper()
	b, code := node.Write(n)
	must(t, "Write", code)
	at, code := p.Alloc()
	must(t, "Alloc", code)
	must(t, "Put", p.Put(at, b))
	return at
}

// fill leaves so many pages that are free, and none that could be added.
func fill(t *testing.T, p *pager.Pager, free int) {
	t.Helper()
	var l []int
	for {
		n, code := p.Alloc()
		if code == api.ErrFull {
			break
		}
		must(t, "Alloc", code)
		l = append(l, n)
	}
	for _, n := range l[:free] {
		must(t, "Free", p.Free(n))
	}
}

// TestP16_3AllSavepoints makes changes while there are as many savepoints as there can be; after one that failed, the last one brings back what was.
func TestP16_3AllSavepoints(t *testing.T) {
	p, c := fresh(t)
	m := full(t, c)
	for range api.MaxSaves {
		_, code := p.Save()
		must(t, "Save", code)
	}
	must(t, "Del", c.Del("t3"))
	must(t, "Put", c.Put(entry("t3", 16)))
	must(t, "PutIndex", c.PutIndex(index("new", "t3", 9)))
	must(t, "DelIndex", c.DelIndex("new"))
	must(t, "Del", c.Del("t5"))
	after := m.clone()
	after.del("t3")
	after.put(entry("t3", 16))
	after.del("t5")
	check(t, c, after)
	must(t, "Back", p.Back(api.MaxSaves))
	check(t, c, m)
	fill(t, p, 0)
	wants(t, "Put", c.Put(entry("t0", 16)), api.ErrFull)
	must(t, "Back", p.Back(api.MaxSaves))
	check(t, c, m)
}

// committed is a disk with a catalog, whose root is page 1, and its model.
func committed(t *testing.T) (*vdisk.Disk, model) {
	t.Helper()
	d := disk(t)
	p := begun(t, d)
	c := create(t, p)
	if c.Root() != 1 {
		t.Fatalf("Root = %d", c.Root())
	}
	m := full(t, c)
	must(t, "Commit", p.Commit())
	return d, m
}

// TestP5 crashes at calls of a Commit that changes a catalog: the state is that before it, or that after it; the latter if Commit returned OK.
func TestP5(t *testing.T) {
	seen := map[bool]int{}
	for n, code := 0, api.ErrDown; code != api.OK; n++ {
		for _, keep := range []byte{0, 255, 0x55, 0x3c} {
			d, before := committed(t)
			p := begun(t, d)
			c, after := catalog.Open(p, 1), before.clone()
			must(t, "Del", c.Del("t3"))
			must(t, "Del", after.del("t3"))
			must(t, "Put", c.Put(entry("new", 9)))
			must(t, "Put", after.put(entry("new", 9)))
			must(t, "PutIndex", c.PutIndex(index("new", "new", 8)))
			must(t, "PutIndex", after.putIndex(index("new", "new", 8)))
			must(t, "Fail", d.Fail(n))
			code = p.Commit()
			must(t, "Crash", d.Crash(bytes.Repeat([]byte{keep}, 200)))
			c = catalog.Open(open(t, d), 1)
			_, is := c.Get("new")
			if done := is == api.OK; done {
				check(t, c, after)
				seen[true]++
				continue
			}
			check(t, c, before)
			seen[false]++
			if code == api.OK {
				t.Fatal("the state is that before a Commit that returned OK")
			}
		}
	}
	if seen[false] == 0 || seen[true] == 0 {
		t.Errorf("%v", seen)
	}
}
