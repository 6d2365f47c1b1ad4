package walk_test

import (
	"slices"
	"strconv"
	"strings"
	"testing"

	"hindsight/api"
	"hindsight/btree"
	"hindsight/node"
	"hindsight/pager"
	"hindsight/vdisk"
	"hindsight/walk"
)

// must reports an error that is not expected.
func must(t *testing.T, what string, code api.Errno) {
	t.Helper()
	if code != api.OK {
		t.Fatalf("%s = %v", what, code)
	}
}

// begun is the pager of an empty disk, in a transaction, and the disk.
func begun(t *testing.T) (*pager.Pager, *vdisk.Disk) {
	t.Helper()
	d, code := vdisk.New(65536)
	must(t, "New", code)
	p, code := pager.Open(d)
	must(t, "Open", code)
	must(t, "Begin", p.Begin())
	return p, d
}

// visited are the keys and the values of the pairs that are yielded, at most so many, and the error that is yielded last.
func visited(t *testing.T, a *btree.Tree, front string, most int) ([]string, []string, api.Errno) {
	t.Helper()
	var keys, vals []string
	last := api.OK
	for at, err := range walk.Pairs(a, front) {
		if last != api.OK {
			t.Fatal("a pair is yielded behind an error")
		}
		if last = err; err != api.OK {
			continue
		}
		v, code := at.Value()
		must(t, "Value", code)
		keys, vals = append(keys, at.Key()), append(vals, string(v))
		if len(keys) == most {
			break
		}
	}
	return keys, vals, last
}

func TestPairs(t *testing.T) {
	p, _ := begun(t)
	a, code := btree.Create(p)
	must(t, "Create", code)
	var all []string
	for i := range 300 {
		all = append(all, strconv.Itoa(i*i)+strings.Repeat("\xff", i%7), strings.Repeat("\xff", 1+i%100))
	}
	slices.Sort(all)
	all = slices.Compact(all)
	for _, front := range []string{"", "1", "12", "\xff", strings.Repeat("\xff", 100), strings.Repeat("1", 101), "x", "9\xff"} {
		if keys, _, code := visited(t, a, front, 9); len(keys) != 0 || code != api.OK {
			t.Errorf("%q: %q %v", front, keys, code)
		}
	}
	for _, k := range all {
		must(t, "Put", a.Put(k, []byte(k+k)))
	}
	for _, front := range append(all, "", "1", "12", "\x00", "x", "9\xff", strings.Repeat("\xff", 101)) {
		want := slices.DeleteFunc(slices.Clone(all), func(k string) bool { return !strings.HasPrefix(k, front) })
		for _, most := range []int{1, 2, 1000} {
			keys, vals, code := visited(t, a, front, most)
			if !slices.Equal(keys, want[:min(most, len(want))]) || code != api.OK {
				t.Fatalf("%q: %q %v, want %q", front, keys, code, want)
			}
			for i, k := range keys {
				if vals[i] != k+k {
					t.Errorf("%q has the value %q", k, vals[i])
				}
			}
		}
	}
}

func TestErrors(t *testing.T) {
	p, d := begun(t)
	a, code := btree.Create(p)
	must(t, "Create", code)
	for i := range 99 {
		must(t, "Put", a.Put(strconv.Itoa(100+i), make([]byte, 100)))
	}
	must(t, "Commit", p.Commit())
	d.Fail(0)
	d.Sync(0)
	for _, x := range []struct {
		tree *btree.Tree
		want api.Errno
	}{{nil, api.ErrNil}, {&btree.Tree{}, api.ErrNil}, {btree.Open(nil, 1), api.ErrNil}, {btree.Open(p, 9999), api.ErrArg}, {a, api.ErrDown}} {
		if keys, _, code := visited(t, x.tree, "", 9); len(keys) != 0 || code != x.want {
			t.Errorf("%q %v, want %v", keys, code, x.want)
		}
	}
	// The error may come behind some pairs, and is not met by those that end earlier.
	must(t, "Crash", d.Crash(nil))
	must(t, "Begin", p.Begin())
	root, code := a.Node(a.Root())
	must(t, "Node", code)
	must(t, "Put", p.Put(root.Kids[1], make([]byte, 512)))
	keys, _, code := visited(t, a, "", 1000)
	if len(keys) == 0 || len(keys) > 90 || code != api.ErrCorrupt {
		t.Errorf("%q %v", keys, code)
	}
	if keys, _, code := visited(t, a, "100", 1000); len(keys) != 1 || code != api.OK {
		t.Errorf("%q %v", keys, code)
	}
}

// TestDamaged has trees whose keys do not increase, among them one that has no end.
func TestDamaged(t *testing.T) {
	leaf := func(l ...string) node.Node {
		return node.Node{Leaf: true, Keys: l, Cells: make([]node.Cell, len(l))}
	}
	inner := func(kids ...int) node.Node {
		n := node.Node{Kids: kids}
		for i := range len(kids) - 1 {
			n.Keys = append(n.Keys, "k"+strconv.Itoa(i))
		}
		return n
	}
	for _, c := range []struct {
		pages []node.Node
		count int
	}{
		{[]node.Node{inner(2, 2), leaf("a", "b")}, 2}, {[]node.Node{inner(2, 3), leaf("a", "c"), leaf("b", "d")}, 2}, {[]node.Node{inner(2, 3), leaf("a", "c"), leaf("c", "d")}, 2},
		{[]node.Node{inner(2, 1), leaf("a", "b")}, 2}, {[]node.Node{inner(1, 2), leaf("a", "b")}, 0}, {[]node.Node{leaf("", "a")}, 0}, {[]node.Node{leaf("")}, 0},
	} {
		p, _ := begun(t)
		for i, n := range c.pages {
			b, code := node.Write(n)
			must(t, "Write", code)
			at, code := p.Alloc()
			must(t, "Alloc", code)
			if at != i+1 {
				t.Fatalf("Alloc = %d", at)
			}
			must(t, "Put", p.Put(at, b))
		}
		if keys, _, code := visited(t, btree.Open(p, 1), "", 1000); len(keys) != c.count || code != api.ErrCorrupt {
			t.Errorf("%v: %q %v", c.pages, keys, code)
		}
	}
}
