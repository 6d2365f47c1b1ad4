package btree_test

import (
	"bytes"
	"maps"
	"slices"
	"strings"
	"testing"

	"hindsight/api"
	"hindsight/btree"
	"hindsight/node"
	"hindsight/pager"
	"hindsight/vdisk"
)

// Short names for what the tests make by the dozen.
type (
	cells = []node.Cell
	keys  = []string
	kids  = []int
)

// must reports an error that is not expected.
func must(t *testing.T, what string, code api.Errno) {
	t.Helper()
	if code != api.OK {
		t.Fatalf("%s = %v", what, code)
	}
}

// wants holds the error of a call against the one that it must return.
func wants(t *testing.T, what string, code, want api.Errno) {
	t.Helper()
	if code != want {
		t.Errorf("%s = %v, want %v", what, code, want)
	}
}

// disk is an empty disk.
func disk(t *testing.T) *vdisk.Disk {
	t.Helper()
	d, code := vdisk.New(65536)
	must(t, "New", code)
	return d
}

// open is the pager of a disk.
func open(t *testing.T, d *vdisk.Disk) *pager.Pager {
	t.Helper()
	p, code := pager.Open(d)
	must(t, "Open", code)
	return p
}

// begun is the pager of a disk, in a transaction.
func begun(t *testing.T, d *vdisk.Disk) *pager.Pager {
	t.Helper()
	p := open(t, d)
	must(t, "Begin", p.Begin())
	return p
}

// again commits, and opens the disk again, in a transaction.
func again(t *testing.T, d *vdisk.Disk, p *pager.Pager) *pager.Pager {
	t.Helper()
	must(t, "Commit", p.Commit())
	must(t, "Crash", d.Crash(nil))
	return begun(t, d)
}

// down has the disk fail.
func down(d *vdisk.Disk) {
	d.Fail(0)
	d.Sync(0)
}

// create is a new tree.
func create(t *testing.T, p *pager.Pager) *btree.Tree {
	t.Helper()
	a, code := btree.Create(p)
	must(t, "Create", code)
	return a
}

// put stores a pair.
func put(t *testing.T, a *btree.Tree, key, v string) {
	t.Helper()
	must(t, "Put", a.Put(key, []byte(v)))
}

// del removes a pair that there is.
func del(t *testing.T, a *btree.Tree, key string) {
	t.Helper()
	if was, code := a.Del(key); !was || code != api.OK {
		t.Fatalf("Del(%q) = %v %v", key, was, code)
	}
}

// has holds a pair of a tree against its value.
func has(t *testing.T, a *btree.Tree, key, want string) {
	t.Helper()
	if v, is, code := a.Get(key); string(v) != want || !is || code != api.OK {
		t.Errorf("Get(%q) = %d bytes, %v %v, want %d bytes", key, len(v), is, code, len(want))
	}
}

// hasNot holds that a tree has no pair with a key.
func hasNot(t *testing.T, a *btree.Tree, key string) {
	t.Helper()
	if v, is, code := a.Get(key); len(v) != 0 || is || code != api.OK {
		t.Errorf("Get(%q) = %d bytes, %v %v", key, len(v), is, code)
	}
}

// number is n in four bytes.
func number(n int) []byte { return []byte{byte(n >> 24), byte(n >> 16), byte(n >> 8), byte(n)} }

// laid is a pager in a transaction that has these pages, from page 1 on.
func laid(t *testing.T, pages ...[]byte) *pager.Pager {
	t.Helper()
	p := begun(t, disk(t))
	for i, b := range pages {
		n, code := p.Alloc()
		if must(t, "Alloc", code); n != i+1 {
			t.Fatalf("Alloc = %d", n)
		}
		must(t, "Put", p.Put(n, b))
	}
	return p
}

// page is the page of a node.
func page(t *testing.T, n node.Node) []byte {
	t.Helper()
	b, code := node.Write(n)
	must(t, "Write", code)
	return b
}

// leaf is the page of a leaf of keys, each of which is its value as well.
func leaf(t *testing.T, l ...string) []byte {
	t.Helper()
	n := node.Node{Leaf: true, Keys: l}
	for _, k := range l {
		n.Cells = append(n.Cells, node.Cell{Len: len(k), Data: k})
	}
	return page(t, n)
}

// inner is the page of a node that is not a leaf.
func inner(t *testing.T, kids []int, l ...string) []byte {
	t.Helper()
	return page(t, node.Node{Keys: l, Kids: kids})
}

// image is a page as it is now.
func image(t *testing.T, p *pager.Pager, n int) []byte {
	t.Helper()
	b, code := p.Get(n)
	must(t, "Get", code)
	return b
}

// view is all that the pager shows.
func view(t *testing.T, p *pager.Pager) string {
	t.Helper()
	var s strings.Builder
	for n := 1; n < p.Pages(); n++ {
		s.Write(image(t, p, n))
	}
	return s.String()
}

// freePages are the pages that are free, in a transaction.
func freePages(t *testing.T, p *pager.Pager) []int {
	t.Helper()
	save, code := p.Save()
	must(t, "Save", code)
	var l []int
	for pages := p.Pages(); ; {
		n, code := p.Alloc()
		if code == api.ErrFull || p.Pages() > pages {
			break
		}
		must(t, "Alloc", code)
		l = append(l, n)
	}
	must(t, "Back", p.Back(save))
	must(t, "Release", p.Release(save))
	return l
}

// walk visits the pages of a tree and holds them against the definition.
type walk struct {
	t     *testing.T
	p     *pager.Pager
	a     *btree.Tree
	pairs map[string]string
	pages []int
	depth int // of the leaves, 0 ahead of the first one
}

// visit visits the nodes from a page on; their keys are from one key on and, if there is one, below another.
func (w *walk) visit(n, depth int, from string, to *string) {
	w.t.Helper()
	x, code := w.a.Node(n)
	must(w.t, "Node", code)
	w.pages = append(w.pages, n)
	if !bytes.Equal(image(w.t, w.p, n), page(w.t, x)) {
		w.t.Fatalf("Node(%d) is not that of the page", n)
	}
	if n != w.a.Root() && len(x.Keys) == 0 {
		w.t.Fatalf("page %d has no keys", n)
	}
	for i, k := range x.Keys {
		if k < from || to != nil && k >= *to || i > 0 && k <= x.Keys[i-1] {
			w.t.Fatalf("the keys of page %d do not increase: %q", n, k)
		}
	}
	if x.Leaf {
		w.leaf(x, depth)
		return
	}
	for i, kid := range x.Kids {
		low, high := from, to
		if i > 0 {
			low = x.Keys[i-1]
		}
		if i < len(x.Keys) {
			high = &x.Keys[i]
		}
		w.visit(kid, depth+1, low, high)
	}
}

// leaf visits the pairs of a leaf.
func (w *walk) leaf(x node.Node, depth int) {
	w.t.Helper()
	if w.depth == 0 {
		w.depth = depth
	}
	if w.depth != depth {
		w.t.Fatalf("leaves have the depths %d and %d", w.depth, depth)
	}
	for i, c := range x.Cells {
		w.pairs[x.Keys[i]] = w.value(c)
	}
}

// value is the value of a cell by the definition of the overflow pages.
func (w *walk) value(c node.Cell) string {
	w.t.Helper()
	if c.Len <= 120 {
		return c.Data
	}
	v := ""
	for n := c.Page; n != 0; {
		b := image(w.t, w.p, n)
		w.pages = append(w.pages, n)
		v += string(b[4:])
		n = int(b[0])<<24 | int(b[1])<<16 | int(b[2])<<8 | int(b[3])
	}
	if len(v)-c.Len < 0 || len(v)-c.Len >= 508 {
		w.t.Fatalf("the value of %d bytes has %d in overflow pages", c.Len, len(v))
	}
	return v[:c.Len]
}

// check holds the structure of a tree and its pairs against those that it must have, and returns its pages and the depth of its leaves.
func check(t *testing.T, p *pager.Pager, a *btree.Tree, want map[string]string) ([]int, int) {
	t.Helper()
	w := &walk{t: t, p: p, a: a, pairs: map[string]string{}}
	w.visit(a.Root(), 1, "", nil)
	if !maps.Equal(w.pairs, want) {
		t.Fatalf("the tree has %d pairs, want %d, or others", len(w.pairs), len(want))
	}
	return w.pages, w.depth
}

// checkAll holds all trees of a pager against their pairs; each page but the header belongs to one of them, or is free. It returns the greatest depth.
func checkAll(t *testing.T, p *pager.Pager, trees []*btree.Tree, want []map[string]string) int {
	t.Helper()
	used, deepest := freePages(t, p), 0
	for i, a := range trees {
		l, deep := check(t, p, a, want[i])
		used = append(used, l...)
		deepest = max(deepest, deep)
	}
	slices.Sort(used)
	for i, n := range used {
		if n != i+1 {
			t.Fatalf("page %d is lost, or used twice: %v", i+1, used)
		}
	}
	if len(used) != p.Pages()-1 {
		t.Fatalf("%d pages are free or used, of %d", len(used), p.Pages()-1)
	}
	return deepest
}

// chance is a sequence of numbers that is the same in every run.
type chance uint64

// below is the next number, from 0 to n - 1.
func (c *chance) below(n int) int {
	*c = *c*6364136223846793005 + 1442695040888963407
	return int(uint64(*c)>>33) % n
}

// text is a next text of that many bytes.
func (c *chance) text(size int) string {
	b := make([]byte, size)
	for i := range b {
		b[i] = byte(c.below(256))
	}
	return string(b)
}
