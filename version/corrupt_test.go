package version_test

import (
	"bytes"
	"math"
	"strings"
	"testing"

	"hindsight/api"
	"hindsight/btree"
	"hindsight/catalog"
	"hindsight/node"
	"hindsight/pager"
	"hindsight/schema"
	"hindsight/version"
)

// tampered are bytes that are none of a version of which v are the bytes.
func tampered(v []byte) [][]byte {
	l := [][]byte{nil, {0}, {255}, make([]byte, 7), append(bytes.Clone(v), 0), append(bytes.Clone(v), v...), bytes.Repeat([]byte{255}, len(v)), bytes.Repeat([]byte{255}, 8192)}
	for i := range v {
		l = append(l, v[:i])
	}
	return l
}

// changed is a store whose first row has a past version, from 5 to 6, with the keys of its two rows.
func changed(t *testing.T) (*pager.Pager, catalog.Entry, *version.Store, [2][]byte) {
	t.Helper()
	p, e, s := fresh(t, kept())
	keys := [2][]byte{keyOf(t, kept(), pair(1, "")), keyOf(t, kept(), pair(2, ""))}
	must(t, "Insert", s.Insert(pair(1, "x"), 5))
	must(t, "Insert", s.Insert(pair(2, strings.Repeat("z", 300)), 5))
	must(t, "Replace", s.Replace(keys[0], pair(1, "y"), 6))
	return p, e, s, keys
}

// noScan holds that views from one kind to another cannot be read, whether they include what is malformed or not.
func noScan(t *testing.T, s *version.Store, want api.Errno, first, last int) {
	t.Helper()
	for kind := first; kind <= last; kind++ {
		for _, a := range []int64{-9, 5, 99} {
			if l, code := s.Scan(view{kind, a, a + 1}); len(l) != 0 || code != want {
				t.Errorf("Scan(%d %d) = %v %v, want %v", kind, a, l, code, want)
			}
		}
	}
}

// noRow holds that the current version of a key, of the row 1, cannot be read, by any call that has to.
func noRow(t *testing.T, s *version.Store, key []byte, want api.Errno) {
	t.Helper()
	for _, stamp := range []int64{math.MinInt64, 9} {
		for _, code := range rowCalls(t, s, key, pair(1, "w"), stamp) {
			wants(t, "a call with a current version that is malformed", code, want)
		}
	}
	if l, code := s.Front(nil); len(l) != 0 || code != want {
		t.Errorf("Front = %v %v", l, code)
	}
	noScan(t, s, want, 0, 4)
	// What the arguments tell is told ahead of it.
	wants(t, "Insert", s.Insert(nil, 9), api.ErrArg)
	wants(t, "Insert", s.Insert(pair(1, longest+"x"), 9), api.ErrLong)
	wants(t, "Replace", s.Replace(key, pair(3, "w"), 9), api.ErrArg)
	wants(t, "Replace", s.Replace(key, pair(1, longest+"x"), 9), api.ErrLong)
}

// unchanged holds that calls, which return errors, change nothing.
func unchanged(t *testing.T, p *pager.Pager, do func()) {
	t.Helper()
	before := pages(t, p)
	do()
	if pages(t, p) != before {
		t.Error("an error changes something")
	}
}

func TestP17_4CorruptCurrent(t *testing.T) {
	p, e, s, keys := changed(t)
	tree := btree.Open(p, e.Current)
	v, _, _ := tree.Get(string(keys[0]))
	other := row{pair(2, strings.Repeat("z", 300)), 5, version.Now}
	for _, b := range tampered(v) {
		must(t, "Put", tree.Put(string(keys[0]), b))
		unchanged(t, p, func() { noRow(t, s, keys[0], api.ErrCorrupt) })
		// The other row can be read.
		holds(t, s, keys[1], &other)
		if l, code := s.Front(keys[1]); !areSame(l, []row{other}) || code != api.OK {
			t.Errorf("Front = %v %v", l, code)
		}
	}
	must(t, "Put", tree.Put(string(keys[0]), v))
	has(t, s, view{Kind: 4}, row{pair(1, "y"), 6, version.Now}, other, row{pair(1, "x"), 5, 6})
}

func TestP17_4CorruptHistory(t *testing.T) {
	p, e, s, keys := changed(t)
	tree := btree.Open(p, e.History)
	past := pairs(t, p, e.History)[0]
	now := []row{{pair(1, "y"), 6, version.Now}, {pair(2, strings.Repeat("z", 300)), 5, version.Now}}
	malformed := func() {
		t.Helper()
		noScan(t, s, api.ErrCorrupt, 1, 4)
		for _, mark := range []int64{math.MinInt64, 5, 6, math.MaxInt64} {
			if n, code := s.Prune(mark); n != 0 || code != api.ErrCorrupt {
				t.Errorf("Prune(%d) = %d %v", mark, n, code)
			}
		}
		// The current versions can be read.
		has(t, s, view{}, now...)
		holds(t, s, keys[0], &now[0])
		if l, code := s.Front(nil); !areSame(l, now) || code != api.OK {
			t.Errorf("Front = %v %v", l, code)
		}
	}
	for _, b := range tampered(past.Val) {
		must(t, "Put", tree.Put(past.Key, b))
		unchanged(t, p, malformed)
	}
	must(t, "Put", tree.Put(past.Key, past.Val))
	// Keys in the tree that have no To, or that of another row, in front of the one that is right and behind it.
	for _, k := range []string{"", "\x00", "k", "\xff", past.Key[:7], past.Key[:8], past.Key[:9], past.Key[1:], past.Key[:16], past.Key + "\x00", strings.Repeat("\xff", 100), string(keys[1]) + past.Key[9:]} {
		must(t, "Put", tree.Put(k, past.Val))
		unchanged(t, p, malformed)
		if len(k) <= 8 {
			// A row without values is not valid, so that no key is held against it.
			must(t, "Put", tree.Put(k, make([]byte, 9)))
			unchanged(t, p, malformed)
		}
		_, code := tree.Del(k)
		must(t, "Del", code)
	}
	has(t, s, view{Kind: 4}, append(now, row{pair(1, "x"), 5, 6})...)
	prune(t, s, 6, 1)
}

// TestP17_4CorruptKeys has a row under a key that is not its own.
func TestP17_4CorruptKeys(t *testing.T) {
	p, e, s, keys := changed(t)
	tree := btree.Open(p, e.Current)
	v, _, _ := tree.Get(string(keys[0]))
	for _, k := range []string{"", "\x00", "\xff", string(keys[0][:8]), string(keys[0]) + "\x00", string(keyOf(t, kept(), pair(0, ""))), string(keyOf(t, kept(), pair(3, ""))), strings.Repeat("\xff", 100)} {
		must(t, "Put", tree.Put(k, v))
		unchanged(t, p, func() {
			noScan(t, s, api.ErrCorrupt, 0, 4)
			if l, code := s.Front([]byte(k)); len(l) != 0 || code != api.ErrCorrupt {
				t.Errorf("Front(%q) = %v %v", k, l, code)
			}
			if r, is, code := s.Get([]byte(k)); !same(r, row{}) || is || code != api.ErrCorrupt {
				t.Errorf("Get(%q) = %v %v %v", k, r, is, code)
			}
			wants(t, "Delete", s.Delete([]byte(k), 9), api.ErrCorrupt)
		})
		_, code := tree.Del(k)
		must(t, "Del", code)
	}
	must(t, "Put", tree.Put(string(keys[1]), v))
	noScan(t, s, api.ErrCorrupt, 0, 4)
	holds(t, s, keys[0], &row{pair(1, "y"), 6, version.Now})
}

// TestP17_4NotValid reads rows by the entry of a table for which they are not valid: they are not malformed.
func TestP17_4NotValid(t *testing.T) {
	p, e, s, keys := changed(t)
	must(t, "Insert", s.Insert(values{number(3), null}, 7))
	must(t, "Delete", s.Delete(keys[1], 9))
	want, _ := s.Scan(view{Kind: 4})
	for _, change := range []func(x *schema.Table){
		func(x *schema.Table) { x.Columns[1].NotNull = true },
		func(x *schema.Table) { x.Columns[1].Kind = api.Blob },
		func(x *schema.Table) { x.Columns[0].Kind = api.Text },
		func(x *schema.Table) { x.Columns = append(x.Columns, schema.Column{Name: "c", Kind: api.Int}) },
		func(x *schema.Table) { x.Columns = x.Columns[:1] },
	} {
		f := e
		f.Table = kept()
		change(&f.Table)
		s := store(t, p, f)
		has(t, s, view{Kind: 4}, want...)
		for _, r := range want[:2] {
			holds(t, s, keyOf(t, kept(), r.Values), &r)
		}
		save, code := p.Save()
		must(t, "Save", code)
		must(t, "Delete", s.Delete(keys[0], 9))
		prune(t, s, 9, 3)
		must(t, "Back", p.Back(save))
		must(t, "Release", p.Release(save))
	}
}

// TestP17_4Pages has trees whose pages are damaged or do not exist.
func TestP17_4Pages(t *testing.T) {
	p, e, _, keys := changed(t)
	circle := node.Node{Keys: []string{string(keys[0])}}
	twice := node.Node{Keys: []string{string(keys[0]) + "\x00"}, Kids: []int{e.Current, e.Current}}
	for _, c := range []struct {
		root int
		want api.Errno
	}{
		{-1, api.ErrArg}, {0, api.ErrArg}, {4095, api.ErrArg}, {4096, api.ErrArg}, {math.MaxInt, api.ErrArg}, {math.MinInt, api.ErrArg},
		{add(t, p, nil), api.ErrCorrupt}, {add(t, p, bytes.Repeat([]byte{1}, 512)), api.ErrCorrupt}, {add(t, p, page(t, circleAt(p.Pages(), circle))), api.ErrCorrupt},
	} {
		f := e
		f.Current = c.root
		s := store(t, p, f)
		unchanged(t, p, func() {
			noRow(t, s, keys[0], c.want)
			wants(t, "Drop", s.Drop(), c.want)
		})
		if f.History = c.root; c.root == 0 {
			continue
		}
		f.Current = e.Current
		s = store(t, p, f)
		unchanged(t, p, func() {
			noScan(t, s, c.want, 1, 4)
			wants(t, "Delete", s.Delete(keys[0], 9), c.want)
			wants(t, "Replace", s.Replace(keys[0], pair(1, "w"), 9), c.want)
			wants(t, "Drop", s.Drop(), c.want)
			if n, code := s.Prune(9); n != 0 || code != c.want {
				t.Errorf("Prune = %d %v", n, code)
			}
		})
		// What makes no past version does not need the history.
		must(t, "Replace", s.Replace(keys[0], pair(1, "y"), 6))
	}
	// The same leaf twice: its keys do not increase.
	e.Current = add(t, p, page(t, twice))
	noScan(t, store(t, p, e), api.ErrCorrupt, 0, 4)
}

// TestP17_4DelFails has trees whose leaves have different depths, so that not all pairs can be removed: nothing is changed.
func TestP17_4DelFails(t *testing.T) {
	p, e, s := fresh(t, kept())
	for i := range int64(5) {
		l := pair(i, strings.Repeat("x", 60))
		must(t, "Insert", s.Insert(l, 5))
		must(t, "Replace", s.Replace(keyOf(t, kept(), l), l, 6))
	}
	want, code := s.Scan(view{Kind: 4})
	must(t, "Scan", code)
	for _, n := range []int{e.Current, e.History} {
		l := pairs(t, p, n)
		inner := node.Node{Keys: []string{l[4].Key}, Kids: []int{add(t, p, page(t, leaf(l[3]))), add(t, p, page(t, leaf(l[4])))}}
		root := node.Node{Keys: []string{l[3].Key}, Kids: []int{add(t, p, page(t, leaf(l[:3]...))), add(t, p, page(t, inner))}}
		must(t, "Put", p.Put(n, page(t, root)))
	}
	has(t, s, view{Kind: 4}, want...)
	unchanged(t, p, func() {
		if n, code := s.Prune(6); n != 0 || code != api.ErrCorrupt {
			t.Errorf("Prune = %d %v", n, code)
		}
	})
	must(t, "Delete", s.Delete(keyOf(t, kept(), pair(0, "")), 6))
	unchanged(t, p, func() { wants(t, "Delete", s.Delete(keyOf(t, kept(), pair(1, "")), 7), api.ErrCorrupt) })
	has(t, s, view{Kind: 4}, want[1:]...)
}

// leaf is the leaf of some pairs with short values.
func leaf(l ...btree.Pair) node.Node {
	n := node.Node{Leaf: true}
	for _, x := range l {
		n.Keys = append(n.Keys, x.Key)
		n.Cells = append(n.Cells, node.Cell{Len: len(x.Val), Data: string(x.Val)})
	}
	return n
}

// add is a new page; nil makes zeros.
func add(t *testing.T, p *pager.Pager, b []byte) int {
	t.Helper()
	at, code := p.Alloc()
	must(t, "Alloc", code)
	if b != nil {
		must(t, "Put", p.Put(at, b))
	}
	return at
}

// page is the page of a node.
func page(t *testing.T, n node.Node) []byte {
	t.Helper()
	b, code := node.Write(n)
	must(t, "Write", code)
	return b
}

// circleAt is a node all of whose kids are the page that it is on.
func circleAt(at int, n node.Node) node.Node {
	n.Kids = []int{at, at}
	return n
}
