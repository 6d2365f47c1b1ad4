package cursor_test

import (
	"maps"
	"slices"
	"strconv"
	"strings"
	"testing"

	"hindsight/api"
	"hindsight/btree"
	"hindsight/cursor"
	"hindsight/node"
	"hindsight/pager"
	"hindsight/vdisk"
)

// Short names for what the tests make by the dozen.
type (
	cells = []node.Cell
	keys  = []string
	kids  = []int
)

// must reports an error that is not expected.
func must(t *testing.T, what string, code api.Errno) {
	t.Helper()
	if code != api.OK {
		t.Fatalf("%s = %v", what, code)
	}
}

// wants holds the error of a call against the one that it must return.
func wants(t *testing.T, what string, code, want api.Errno) {
	t.Helper()
	if code != want {
		t.Errorf("%s = %v, want %v", what, code, want)
	}
}

// begun is the pager of an empty disk, in a transaction.
func begun(t *testing.T) (*vdisk.Disk, *pager.Pager) {
	t.Helper()
	d, code := vdisk.New(65536)
	must(t, "New", code)
	p, code := pager.Open(d)
	must(t, "Open", code)
	must(t, "Begin", p.Begin())
	return d, p
}

// down has the disk fail.
func down(d *vdisk.Disk) {
	d.Fail(0)
	d.Sync(0)
}

// laid is a tree of these pages, the first of which is its root; they are committed.
func laid(t *testing.T, pages ...[]byte) (*vdisk.Disk, *pager.Pager, *btree.Tree) {
	t.Helper()
	d, p := begun(t)
	for i, b := range pages {
		n, code := p.Alloc()
		if must(t, "Alloc", code); n != i+1 {
			t.Fatalf("Alloc = %d", n)
		}
		must(t, "Put", p.Put(n, b))
	}
	must(t, "Commit", p.Commit())
	return d, p, btree.Open(p, 1)
}

// page is the page of a node.
func page(t *testing.T, n node.Node) []byte {
	t.Helper()
	b, code := node.Write(n)
	must(t, "Write", code)
	return b
}

// leaf is the page of a leaf of keys, each of which is its value as well.
func leaf(t *testing.T, l ...string) []byte {
	t.Helper()
	n := node.Node{Leaf: true, Keys: l}
	for _, k := range l {
		n.Cells = append(n.Cells, node.Cell{Len: len(k), Data: k})
	}
	return page(t, n)
}

// inner is the page of a node that is not a leaf.
func inner(t *testing.T, kids []int, l ...string) []byte {
	t.Helper()
	return page(t, node.Node{Keys: l, Kids: kids})
}

// threeLevels is a tree of seven pages; the leaves are the pages 4 to 7.
func threeLevels(t *testing.T) (*vdisk.Disk, *pager.Pager, *btree.Tree, []string) {
	t.Helper()
	d, p, a := laid(t, inner(t, kids{2, 3}, "m"), inner(t, kids{4, 5}, "f"), inner(t, kids{6, 7}, "s"), leaf(t, "b", "d"), leaf(t, "f", "h"), leaf(t, "m", "o"), leaf(t, "t", "v"))
	return d, p, a, keys{"b", "d", "f", "h", "m", "o", "t", "v"}
}

// tree is a tree of pairs, in a transaction.
func tree(t *testing.T, pairs map[string]string) *btree.Tree {
	t.Helper()
	_, p := begun(t)
	a, code := btree.Create(p)
	must(t, "Create", code)
	for _, k := range slices.Sorted(maps.Keys(pairs)) {
		must(t, "Put", a.Put(k, []byte(pairs[k])))
	}
	return a
}

// numbers are pairs whose keys are even numbers, with values of all kinds.
func numbers(count int) map[string]string {
	l := map[string]string{}
	for i := range count {
		l[strconv.Itoa(10000+2*i)] = strings.Repeat(strconv.Itoa(i%10), i*29%140)
	}
	return l
}

// isAt holds that a cursor is at a pair.
func isAt(t *testing.T, c *cursor.Cursor, key, want string) {
	t.Helper()
	if !c.At() || c.Key() != key {
		t.Fatalf("At %v, Key %q, want %q", c.At(), c.Key(), key)
	}
	if v, code := c.Value(); string(v) != want || code != api.OK {
		t.Fatalf("Value = %q %v, want %q", v, code, want)
	}
}

// isAtNone holds that a cursor is at no pair.
func isAtNone(t *testing.T, c *cursor.Cursor) {
	t.Helper()
	for range 2 {
		if c.At() || c.Key() != "" {
			t.Fatalf("At %v, Key %q", c.At(), c.Key())
		}
		if v, code := c.Value(); len(v) != 0 || code != api.ErrNone {
			t.Fatalf("Value = %q %v", v, code)
		}
		wants(t, "Next", c.Next(), api.ErrNone)
		wants(t, "Prev", c.Prev(), api.ErrNone)
	}
}

// chance is a sequence of numbers that is the same in every run.
type chance uint64

// below is the next number, from 0 to n - 1.
func (c *chance) below(n int) int {
	*c = *c*6364136223846793005 + 1442695040888963407
	return int(uint64(*c)>>33) % n
}

// text is a next text of that many bytes.
func (c *chance) text(size int) string {
	b := make([]byte, size)
	for i := range b {
		b[i] = byte(c.below(256))
	}
	return string(b)
}
