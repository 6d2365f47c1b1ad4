package btree_test

import (
	"bytes"
	"maps"
	"math"
	"slices"
	"strconv"
	"strings"
	"testing"

	"hindsight/api"
	"hindsight/btree"
	"hindsight/node"
)

func TestP11_3Transaction(t *testing.T) {
	d := disk(t)
	p := begun(t, d)
	a := create(t, p)
	put(t, a, "k", "v")
	for _, end := range []func() api.Errno{p.Commit, p.Rollback, p.Commit} {
		must(t, "the end", end())
		calls, before := d.Calls(), view(t, p)
		for _, k := range []string{"k", "l", strings.Repeat("k", 101)} {
			wants(t, "Put", a.Put(k, []byte("w")), api.ErrTx)
			wants(t, "Put", a.Put(k, make([]byte, 8193)), api.ErrTx)
			if was, code := a.Del(k); was || code != api.ErrTx {
				t.Errorf("Del = %v %v", was, code)
			}
		}
		wants(t, "Drop", a.Drop(), api.ErrTx)
		has(t, a, "k", "v")
		if view(t, p) != before || d.Calls() != calls {
			t.Error("a call without a transaction has changed something")
		}
		must(t, "Begin", p.Begin())
	}
	// The error of a transaction is named ahead of all that is read.
	must(t, "Rollback", p.Rollback())
	down(d)
	for _, x := range []*btree.Tree{a, btree.Open(p, 0), btree.Open(p, 9)} {
		wants(t, "Put", x.Put("k", nil), api.ErrTx)
		wants(t, "Drop", x.Drop(), api.ErrTx)
		if was, code := x.Del("k"); was || code != api.ErrTx {
			t.Errorf("Del = %v %v", was, code)
		}
	}
}

func TestP11_3Long(t *testing.T) {
	p := begun(t, disk(t))
	a := create(t, p)
	k100, k101 := strings.Repeat("k", 100), strings.Repeat("k", 101)
	put(t, a, k100, "v")
	before := view(t, p)
	for _, size := range []int{101, 102, 255, 256, 357, 65636, 100000} {
		wants(t, "Put of a long key", a.Put(strings.Repeat("k", size), nil), api.ErrLong)
		wants(t, "Put of a long key", a.Put(strings.Repeat("\x00", size), make([]byte, 8192)), api.ErrLong)
	}
	for _, size := range []int{8193, 8194, 65536, 65537, 100000} {
		wants(t, "Put of a long value", a.Put("k", make([]byte, size)), api.ErrLong)
		wants(t, "Put of a long value", a.Put(k100, make([]byte, size)), api.ErrLong)
		wants(t, "Put of a long pair", a.Put(k101, make([]byte, size)), api.ErrLong)
	}
	if was, code := a.Del(k101); was || code != api.OK {
		t.Errorf("Del = %v %v", was, code)
	}
	if view(t, p) != before {
		t.Error("what is too long has changed something")
	}
	// The error of the arguments is named ahead of that of the pages.
	x := btree.Open(p, 99)
	wants(t, "Put", x.Put(k101, nil), api.ErrLong)
	wants(t, "Put", x.Put("k", make([]byte, 8193)), api.ErrLong)
	wants(t, "Put", x.Put(k100, make([]byte, 8192)), api.ErrArg)
	put(t, a, k100, strings.Repeat("v", 8192))
	put(t, a, "", strings.Repeat("w", 8192))
	checkAll(t, p, []*btree.Tree{a}, []map[string]string{{k100: strings.Repeat("v", 8192), "": strings.Repeat("w", 8192)}})
}

// TestP11_3Replace stores values of all lengths in place of one another.
func TestP11_3Replace(t *testing.T) {
	next := chance(1)
	for _, key := range []string{"", "k", strings.Repeat("k", 100)} {
		for _, first := range sizes {
			d := disk(t)
			p := begun(t, d)
			a := create(t, p)
			want := map[string]string{"j": "1", "l": "2", "zz": next.text(120)}
			for k, v := range want {
				put(t, a, k, v)
			}
			for i, size := range append(sizes, first, first) {
				for _, size := range []int{first, size} {
					want[key] = next.text(size)
					put(t, a, key, want[key])
					has(t, a, key, want[key])
				}
				if i%7 == 0 {
					p = again(t, d, p)
					a = btree.Open(p, a.Root())
				}
				checkAll(t, p, []*btree.Tree{a}, []map[string]string{want})
			}
			// A value takes as many pages as it needs: with those of the longest one, at most 17 beside the nodes.
			if p.Pages() > 1+3+17 {
				t.Errorf("%d pages", p.Pages())
			}
		}
	}
}

// TestP11_3Arguments holds that neither arguments nor results share memory with the tree.
func TestP11_3Arguments(t *testing.T) {
	p := begun(t, disk(t))
	a := create(t, p)
	for _, size := range []int{3, 120, 121, 1200} {
		k, v := "k"+strconv.Itoa(size), bytes.Repeat([]byte("v"), size)
		room := append(slices.Clone(v), "rest"...)
		must(t, "Put", a.Put(k, room[:size]))
		if !bytes.Equal(room, append(slices.Clone(v), "rest"...)) {
			t.Errorf("Put has changed its argument: %q", room)
		}
		clear(room)
		has(t, a, k, string(v))
		got, _, _ := a.Get(k)
		clear(got[:cap(got)])
		has(t, a, k, string(v))
	}
	must(t, "Put", a.Put("nil", nil))
	must(t, "Put", a.Put("empty", []byte{}))
	has(t, a, "nil", "")
	has(t, a, "empty", "")
}

func TestP11_3Del(t *testing.T) {
	d := disk(t)
	p := begun(t, d)
	a := create(t, p)
	empty := view(t, p)
	for _, k := range []string{"", "k", strings.Repeat("k", 100), strings.Repeat("k", 101)} {
		if was, code := a.Del(k); was || code != api.OK || view(t, p) != empty {
			t.Errorf("Del = %v %v", was, code)
		}
	}
	for i, size := range sizes {
		k := strings.Repeat("k", i)
		put(t, a, "j", "i")
		put(t, a, k, strings.Repeat("v", size))
		del(t, a, k)
		hasNot(t, a, k)
		has(t, a, "j", "i")
		for range 2 {
			if was, code := a.Del(k); was || code != api.OK {
				t.Errorf("Del = %v %v", was, code)
			}
			p = again(t, d, p)
			a = btree.Open(p, a.Root())
		}
		checkAll(t, p, []*btree.Tree{a}, []map[string]string{{"j": "i"}})
	}
	del(t, a, "j")
	checkAll(t, p, []*btree.Tree{a}, []map[string]string{nil})
}

// TestP11_3Nothing removes pairs that there are not, at all places of a tree: no page is written.
func TestP11_3Nothing(t *testing.T) {
	d := disk(t)
	p := begun(t, d)
	a := create(t, p)
	for i := range 300 {
		put(t, a, strconv.Itoa(100000+i), strings.Repeat("v", i))
	}
	p = again(t, d, p)
	a = btree.Open(p, a.Root())
	calls := d.Calls()
	for i := range 300 {
		if was, code := a.Del(strconv.Itoa(100000+i) + "\x00"); was || code != api.OK {
			t.Errorf("Del = %v %v", was, code)
		}
	}
	must(t, "Commit", p.Commit())
	if d.Calls() != calls {
		t.Errorf("%d calls", d.Calls()-calls)
	}
}

func TestP11_3Drop(t *testing.T) {
	for _, count := range []int{0, 1, 5, 60, 400} {
		d := disk(t)
		p := begun(t, d)
		a, b := create(t, p), create(t, p)
		want := map[string]string{}
		for i := range count {
			k := strconv.Itoa(i)
			put(t, a, k, strings.Repeat("v", i*37%2000))
			want[k] = strings.Repeat("w", i*41%1000)
			put(t, b, k, want[k])
		}
		p = again(t, d, p)
		a, b = btree.Open(p, a.Root()), btree.Open(p, b.Root())
		must(t, "Drop", a.Drop())
		checkAll(t, p, []*btree.Tree{b}, []map[string]string{want})
		// A tree that is dropped has no root page.
		if v, is, code := a.Get("1"); len(v) != 0 || is || code != api.ErrCorrupt {
			t.Errorf("Get = %v %v %v", v, is, code)
		}
		if was, code := a.Del("1"); was || code != api.ErrCorrupt {
			t.Errorf("Del = %v %v", was, code)
		}
		wants(t, "Put", a.Put("1", nil), api.ErrCorrupt)
		wants(t, "Drop", a.Drop(), api.ErrCorrupt)
		must(t, "Rollback", p.Rollback())
		must(t, "Begin", p.Begin())
		check(t, p, b, want)
		must(t, "Drop", b.Drop())
		must(t, "Drop", a.Drop())
		checkAll(t, p, nil, nil)
	}
}

// TestP11_3Full stores pairs until no page is left, and once more after Back: the pairs are then as before.
func TestP11_3Full(t *testing.T) {
	d := disk(t)
	p := begun(t, d)
	a := create(t, p)
	next := chance(2)
	want := map[string]string{}
	for p.Pages() < 4060 {
		k := next.text(2 + next.below(30))
		want[k] = next.text(8192)
		put(t, a, k, want[k])
	}
	p = again(t, d, p)
	a = btree.Open(p, a.Root())
	full := 0
	for range 200 {
		save, code := p.Save()
		must(t, "Save", code)
		k, v := next.text(1+next.below(99)), next.text(next.below(8193))
		if code = a.Put(k, []byte(v)); code == api.OK {
			want[k] = v
		} else {
			full++
			wants(t, "Put", code, api.ErrFull)
			must(t, "Back", p.Back(save))
		}
		must(t, "Release", p.Release(save))
	}
	if full < 50 || p.Pages() != 4096 {
		t.Errorf("%d times full, %d pages", full, p.Pages())
	}
	checkAll(t, p, []*btree.Tree{a}, []map[string]string{want})
	// The pages of the old value are there for the new one.
	for k := range want {
		want[k] = strings.Repeat("w", len(want[k]))
		put(t, a, k, want[k])
	}
	checkAll(t, p, []*btree.Tree{a}, []map[string]string{want})
	p = again(t, d, p)
	a = btree.Open(p, a.Root())
	must(t, "Drop", a.Drop())
	checkAll(t, p, nil, nil)
}

// TestP11_3FullEdge splits the root, which needs two pages, or another leaf, which needs one, with all numbers of pages that are left.
func TestP11_3FullEdge(t *testing.T) {
	for _, c := range []struct{ count, needs int }{{4, 2}, {7, 1}} {
		for left := range c.needs + 1 {
			p := begun(t, disk(t))
			a := create(t, p)
			want := map[string]string{}
			for i := range c.count {
				k := strconv.Itoa(i)
				want[k] = strings.Repeat("v", 120)
				put(t, a, k, want[k])
			}
			for p.Pages() < 4096-left {
				_, code := p.Alloc()
				must(t, "Alloc", code)
			}
			code := a.Put("9", make([]byte, 120))
			if left < c.needs {
				wants(t, "Put", code, api.ErrFull)
				continue
			}
			must(t, "Put", code)
			want["9"] = string(make([]byte, 120))
			check(t, p, a, want)
		}
	}
}

// damaged is a tree of which a page is missing, is not that of a node, or has a wrong one below it.
type damaged struct {
	name  string
	want  api.Errno
	pages [][]byte
}

// allDamaged are damaged trees; the key k leads to the damage, and Drop comes to it first of all.
func allDamaged(t *testing.T) []damaged {
	long := func(size, n int) []byte {
		return page(t, node.Node{Leaf: true, Keys: keys{"k"}, Cells: cells{{Len: size, Page: n}}})
	}
	far := append(number(1<<32-1), bytes.Repeat([]byte{255}, 508)...)
	return []damaged{
		{"no root", api.ErrArg, nil},
		{"zeros", api.ErrCorrupt, [][]byte{make([]byte, 512)}},
		{"no node", api.ErrCorrupt, [][]byte{bytes.Repeat([]byte{255}, 512)}},
		{"a circle of one", api.ErrCorrupt, [][]byte{inner(t, kids{1, 1}, "k")}},
		{"a circle of two", api.ErrCorrupt, [][]byte{inner(t, kids{2, 2}, "k"), inner(t, kids{1, 1}, "k")}},
		{"a kid that is zeros", api.ErrCorrupt, [][]byte{inner(t, kids{2, 2}, "k"), make([]byte, 512)}},
		{"a kid that is missing", api.ErrArg, [][]byte{inner(t, kids{2, 2}, "k")}},
		{"a kid far beyond the end", api.ErrArg, [][]byte{inner(t, kids{4095, 4095}, "k")}},
		{"a value that is missing", api.ErrArg, [][]byte{long(121, 2)}},
		{"a value that ends early", api.ErrCorrupt, [][]byte{long(509, 2), number512(0)}},
		{"a value that goes too far", api.ErrArg, [][]byte{long(509, 2), number512(9)}},
		{"a value that goes far beyond the end", api.ErrArg, [][]byte{long(8192, 2), number512(3), far}},
	}
}

func TestP11_3Damaged(t *testing.T) {
	for _, c := range allDamaged(t) {
		for what, do := range map[string]func(a *btree.Tree) (bool, api.Errno){
			"Put":  func(a *btree.Tree) (bool, api.Errno) { return false, a.Put("k", []byte("v")) },
			"Del":  func(a *btree.Tree) (bool, api.Errno) { return a.Del("k") },
			"Drop": func(a *btree.Tree) (bool, api.Errno) { return false, a.Drop() },
		} {
			p := laid(t, c.pages...)
			if was, code := do(btree.Open(p, 1)); was || code != c.want {
				t.Errorf("%s of %s = %v %v, want %v", what, c.name, was, code, c.want)
			}
			// The transaction can be rolled back.
			must(t, "Rollback", p.Rollback())
		}
	}
}

// TestP11_3DamagedKeys stores a pair in a leaf whose keys are on the wrong side of that of the root.
func TestP11_3DamagedKeys(t *testing.T) {
	p := laid(t, inner(t, kids{2, 3}, "k"), leaf(t, "x", "y"+strings.Repeat("y", 99), "z"+strings.Repeat("z", 99)), leaf(t, "l"))
	wants(t, "Put", btree.Open(p, 1).Put("a", make([]byte, 120)), api.ErrCorrupt)
}

// TestP11_3DamagedNeighbour removes the only key of a leaf whose neighbour is damaged.
func TestP11_3DamagedNeighbour(t *testing.T) {
	for _, b := range [][]byte{make([]byte, 512), inner(t, kids{1, 3}, "n"), leaf(t, "b", "n"), leaf(t, "c")} {
		p := laid(t, inner(t, kids{2, 3}, "k"), leaf(t, "c"), b)
		if was, code := btree.Open(p, 1).Del("c"); was && code != api.OK || code != api.OK && code != api.ErrCorrupt {
			t.Errorf("Del = %v %v", was, code)
		}
	}
	p := laid(t, inner(t, kids{2, 9}, "k"), leaf(t, "c"))
	if was, code := btree.Open(p, 1).Del("c"); was || code != api.ErrArg {
		t.Errorf("Del = %v %v", was, code)
	}
	// Its keys are on the wrong side.
	p = laid(t, inner(t, kids{2, 3}, "k"), leaf(t, "c", "e"), leaf(t, "b"))
	if was, code := btree.Open(p, 1).Del("c"); was || code != api.ErrCorrupt {
		t.Errorf("Del = %v %v", was, code)
	}
	p = laid(t, inner(t, kids{2, 3}, "k"), leaf(t, "c", "e"), inner(t, kids{9, 9}, "n"))
	if was, code := btree.Open(p, 1).Del("c"); was || code != api.ErrCorrupt {
		t.Errorf("Del = %v %v", was, code)
	}
}

// TestP11_3Down has the disk fail: what the transaction has not changed cannot be read.
func TestP11_3Down(t *testing.T) {
	d := disk(t)
	p := begun(t, d)
	a := create(t, p)
	for i := range 50 {
		put(t, a, strconv.Itoa(i), strings.Repeat("v", 100))
	}
	p = again(t, d, p)
	a = btree.Open(p, a.Root())
	down(d)
	wants(t, "Put", a.Put("k", nil), api.ErrDown)
	wants(t, "Drop", a.Drop(), api.ErrDown)
	if was, code := a.Del("1"); was || code != api.ErrDown {
		t.Errorf("Del = %v %v", was, code)
	}
	wants(t, "Put", btree.Open(p, math.MaxInt).Put("k", nil), api.ErrArg)
}

// TestP11_3DownNeighbour removes the only key of a leaf whose neighbour cannot be read.
func TestP11_3DownNeighbour(t *testing.T) {
	d := disk(t)
	p := begun(t, d)
	for _, b := range [][]byte{inner(t, kids{2, 3}, "k"), leaf(t, "c"), leaf(t, "m")} {
		n, code := p.Alloc()
		must(t, "Alloc", code)
		must(t, "Put", p.Put(n, b))
	}
	p = again(t, d, p)
	for n := 1; n <= 2; n++ {
		must(t, "Put", p.Put(n, image(t, p, n)))
	}
	down(d)
	if was, code := btree.Open(p, 1).Del("c"); was || code != api.ErrDown {
		t.Errorf("Del = %v %v", was, code)
	}
}

// TestP11_3Any damages bytes of trees and makes all calls: they return, and the transaction can be rolled back.
func TestP11_3Any(t *testing.T) {
	for seed := range 60 {
		next := chance(seed)
		d := disk(t)
		p := begun(t, d)
		a := create(t, p)
		want := map[string]string{}
		for range 80 {
			k := next.text(1 + next.below(40))
			want[k] = next.text(next.below(150))
			put(t, a, k, want[k])
		}
		p = again(t, d, p)
		a = btree.Open(p, a.Root())
		l := slices.Sorted(maps.Keys(want))
		for range 20 {
			for range 1 + next.below(4) {
				n := 1 + next.below(p.Pages()-1)
				b := image(t, p, n)
				b[next.below(512)>>next.below(9)] = byte(next.below(1 + p.Pages()))
				must(t, "Put", p.Put(n, b))
			}
			for range 60 {
				k := l[next.below(len(l))]
				switch next.below(8) {
				case 0:
					a.Put(k, []byte(next.text(next.below(300))))
				case 1:
					a.Get(k)
				default:
					a.Del(k)
				}
			}
			a.Drop()
			must(t, "Rollback", p.Rollback())
			must(t, "Begin", p.Begin())
		}
		checkAll(t, p, []*btree.Tree{a}, []map[string]string{want})
	}
}
