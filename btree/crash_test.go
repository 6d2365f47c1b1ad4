package btree_test

import (
	"bytes"
	"maps"
	"strconv"
	"strings"
	"testing"

	"hindsight/api"
	"hindsight/btree"
	"hindsight/pager"
	"hindsight/vdisk"
)

// state are the pairs of the trees of a file, by the root page.
type state map[int]map[string]string

// clone is the same state in new memory.
func (s state) clone() state {
	c := state{}
	for root, l := range s {
		c[root] = maps.Clone(l)
	}
	return c
}

// put stores a pair, also in the state.
func (s state) put(t *testing.T, a *btree.Tree, key, v string) {
	t.Helper()
	put(t, a, key, v)
	s[a.Root()][key] = v
}

// del removes a pair, also from the state.
func (s state) del(t *testing.T, a *btree.Tree, key string) {
	t.Helper()
	del(t, a, key)
	delete(s[a.Root()], key)
}

// create makes a tree, also in the state.
func (s state) create(t *testing.T, p *pager.Pager) *btree.Tree {
	t.Helper()
	a := create(t, p)
	s[a.Root()] = map[string]string{}
	return a
}

// drop drops a tree, also from the state.
func (s state) drop(t *testing.T, a *btree.Tree) {
	t.Helper()
	must(t, "Drop", a.Drop())
	delete(s, a.Root())
}

// ofKey is the key number i.
func ofKey(i int) string { return strconv.Itoa(100+i) + strings.Repeat("k", i*31%90) }

// twoTrees is a disk with two trees, whose roots are the pages 1 and 2, and its state.
func twoTrees(t *testing.T) (*vdisk.Disk, state) {
	t.Helper()
	d, s := disk(t), state{}
	p := begun(t, d)
	a, b := s.create(t, p), s.create(t, p)
	for i := range 12 {
		s.put(t, a, ofKey(i), strings.Repeat("a", i*11))
		s.put(t, b, ofKey(12-i), strings.Repeat("b", i*50))
	}
	must(t, "Commit", p.Commit())
	return d, s
}

// empty is an empty disk, and its state.
func empty(t *testing.T) (*vdisk.Disk, state) {
	t.Helper()
	return disk(t), state{}
}

// transaction is a change of the trees of a disk, also of its state.
type transaction struct {
	start  func(t *testing.T) (*vdisk.Disk, state)
	change func(t *testing.T, p *pager.Pager, s state)
}

// transactions change trees in all ways.
func transactions() map[string]transaction {
	return map[string]transaction{
		"create": {empty, func(t *testing.T, p *pager.Pager, s state) {
			a := s.create(t, p)
			for i := range 12 {
				s.put(t, a, ofKey(i), strings.Repeat("v", i*15))
			}
		}},
		"put and replace": {twoTrees, func(t *testing.T, p *pager.Pager, s state) {
			a, b := btree.Open(p, 1), btree.Open(p, 2)
			s.put(t, a, "new", strings.Repeat("n", 120))
			s.put(t, a, ofKey(3), strings.Repeat("r", 700))
			s.put(t, b, ofKey(2), "")
			s.put(t, b, ofKey(9), strings.Repeat("s", 119))
		}},
		"remove": {twoTrees, func(t *testing.T, p *pager.Pager, s state) {
			for i := range 10 {
				s.del(t, btree.Open(p, 1), ofKey(i))
			}
			s.del(t, btree.Open(p, 2), ofKey(1))
		}},
		"drop and create": {twoTrees, func(t *testing.T, p *pager.Pager, s state) {
			s.drop(t, btree.Open(p, 2))
			a := s.create(t, p)
			s.put(t, a, "other", strings.Repeat("o", 1200))
			s.put(t, btree.Open(p, 1), ofKey(40), "forty")
		}},
		"drop all": {twoTrees, func(t *testing.T, p *pager.Pager, s state) {
			s.drop(t, btree.Open(p, 1))
			s.drop(t, btree.Open(p, 2))
		}},
		"go back": {twoTrees, func(t *testing.T, p *pager.Pager, s state) {
			s.put(t, btree.Open(p, 1), "kept", strings.Repeat("k", 200))
			save, code := p.Save()
			must(t, "Save", code)
			gone := s.clone()
			for i := range 9 {
				gone.put(t, btree.Open(p, 2), ofKey(50+i), "gone")
			}
			gone.drop(t, btree.Open(p, 1))
			must(t, "Back", p.Back(save))
		}},
	}
}

// begin is a disk ahead of a transaction, its pager in the transaction, changed, with the states before and after it; Meta tells which one the file has.
func (c transaction) begin(t *testing.T) (*vdisk.Disk, *pager.Pager, state, state) {
	t.Helper()
	d, before := c.start(t)
	p := begun(t, d)
	after := before.clone()
	c.change(t, p, after)
	must(t, "SetMeta", p.SetMeta([64]byte{1}))
	return d, p, before, after
}

// look reports whether a disk is as after a transaction, otherwise it must be as before it; all pages are those of a tree or free.
func look(t *testing.T, d *vdisk.Disk, before, after state) bool {
	t.Helper()
	p := begun(t, d)
	done := p.Meta() == [64]byte{1}
	s := before
	if done {
		s = after
	}
	var trees []*btree.Tree
	var pairs []map[string]string
	for root, l := range s {
		trees = append(trees, btree.Open(p, root))
		pairs = append(pairs, l)
	}
	checkAll(t, p, trees, pairs)
	must(t, "Rollback", p.Rollback())
	return done
}

// crashed is the disk that fails after so many calls of the Commit and then crashes, with the states before the transaction and after it.
func (c transaction) crashed(t *testing.T, calls int, keep []byte) (*vdisk.Disk, state, state, api.Errno) {
	t.Helper()
	d, p, before, after := c.begin(t)
	must(t, "Fail", d.Fail(calls))
	code := p.Commit()
	if code != api.OK && code != api.ErrDown {
		t.Fatalf("Commit = %v after %d calls", code, calls)
	}
	must(t, "Crash", d.Crash(keep))
	return d, before, after, code
}

// keeps are choices of the pending writes.
func keeps() [][]byte {
	var l [][]byte
	for _, c := range []byte{0, 255, 0x55, 0xaa, 0x3c, 0x81} {
		l = append(l, bytes.Repeat([]byte{c}, 200))
	}
	return append(l, bytes.Repeat([]byte{0, 255}, 100), bytes.Repeat([]byte{15, 0, 240}, 70))
}

// TestP5 crashes at every call of the Commit of a transaction that changed trees: the state is that before it, or that after it; the latter if Commit returned OK.
func TestP5(t *testing.T) {
	for name, c := range transactions() {
		seen := map[bool]int{}
		for n, code := 0, api.ErrDown; code != api.OK; n++ {
			for _, keep := range keeps() {
				var d *vdisk.Disk
				var before, after state
				d, before, after, code = c.crashed(t, n, keep)
				done := look(t, d, before, after)
				if code == api.OK && !done {
					t.Fatalf("%s: the state is that before a Commit that returned OK", name)
				}
				seen[done]++
			}
		}
		if seen[false] == 0 || seen[true] == 0 {
			t.Errorf("%s: %v", name, seen)
		}
	}
}

// TestP5Twice crashes at calls of the Commit, and then at calls of the Open behind it.
func TestP5Twice(t *testing.T) {
	for name, c := range transactions() {
		for n, code := 0, api.ErrDown; code != api.OK; n += 5 {
			for _, keep := range keeps()[:3] {
				for m, opened := 0, api.ErrDown; opened != api.OK; m += 9 {
					var d *vdisk.Disk
					var before, after state
					d, before, after, code = c.crashed(t, n, keep)
					must(t, "Fail", d.Fail(m))
					_, opened = pager.Open(d)
					must(t, "Crash", d.Crash(keep))
					if done := look(t, d, before, after); code == api.OK && !done {
						t.Fatalf("%s: the state is that before a Commit that returned OK", name)
					}
				}
			}
		}
	}
}

// TestP5Begun crashes ahead of the Commit.
func TestP5Begun(t *testing.T) {
	for _, c := range transactions() {
		d, _, before, after := c.begin(t)
		must(t, "Crash", d.Crash(bytes.Repeat([]byte{255}, 99)))
		if look(t, d, before, after) {
			t.Error("a transaction that was not committed is seen")
		}
	}
}

// TestP5NoRoom commits without room on the disk: the state is that before the transaction, for the same pager as well.
func TestP5NoRoom(t *testing.T) {
	for name, c := range transactions() {
		failed := 0
		for quota := 1; quota < 600; quota += 23 {
			d, p, before, after := c.begin(t)
			must(t, "Quota", d.Quota(quota))
			code := p.Commit()
			if code != api.OK {
				failed++
				wants(t, "Commit", code, api.ErrDisk)
				after = before
			}
			must(t, "Begin", p.Begin())
			for root, l := range after {
				check(t, p, btree.Open(p, root), l)
			}
			must(t, "Rollback", p.Rollback())
			must(t, "Quota", d.Quota(65536))
			must(t, "Crash", d.Crash(nil))
			if done := look(t, d, before, after); done != (code == api.OK) {
				t.Errorf("%s: Commit = %v", name, code)
			}
		}
		if failed == 0 {
			t.Errorf("%s: no Commit failed", name)
		}
	}
}
