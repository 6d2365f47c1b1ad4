package btree_test

import (
	"bytes"
	"math"
	"slices"
	"strings"
	"testing"

	"hindsight/api"
	"hindsight/btree"
	"hindsight/node"
	"hindsight/pager"
)

func TestP11_1Create(t *testing.T) {
	p := begun(t, disk(t))
	for want := 1; want <= 3; want++ {
		a := create(t, p)
		if a.Root() != want || !bytes.Equal(image(t, p, want), append([]byte{1}, make([]byte, 511)...)) {
			t.Errorf("Root = %d, want %d", a.Root(), want)
		}
		check(t, p, a, nil)
		hasNot(t, a, "")
		hasNot(t, a, "k")
		put(t, a, "k", strings.Repeat("v", want))
	}
	// The trees do not share their pairs.
	for root := 1; root <= 3; root++ {
		check(t, p, btree.Open(p, root), map[string]string{"k": strings.Repeat("v", root)})
	}
	must(t, "Free", p.Free(2))
	must(t, "Free", p.Free(1))
	for want := 1; want <= 2; want++ {
		a := create(t, p)
		if a.Root() != want {
			t.Errorf("Root = %d, want the free page %d", a.Root(), want)
		}
		check(t, p, a, nil)
	}
}

func TestP11_1CreateErrors(t *testing.T) {
	refused := func(p *pager.Pager, want api.Errno) {
		t.Helper()
		pages := p.Pages()
		if a, code := btree.Create(p); a != nil || code != want || p.Pages() != pages {
			t.Errorf("Create = %v %v, want %v", a, code, want)
		}
	}
	refused(nil, api.ErrNil)
	refused(&pager.Pager{}, api.ErrNil)
	d := disk(t)
	p := open(t, d)
	refused(p, api.ErrTx)
	must(t, "Begin", p.Begin())
	for range 4095 {
		_, code := p.Alloc()
		must(t, "Alloc", code)
	}
	refused(p, api.ErrFull)
	must(t, "Free", p.Free(9))
	must(t, "Commit", p.Commit())
	refused(p, api.ErrTx)
	must(t, "Begin", p.Begin())
	down(d)
	refused(p, api.ErrDown)
	must(t, "Crash", d.Crash(nil))
	p = begun(t, d)
	must(t, "Put", p.Put(9, bytes.Repeat([]byte{9}, 512)))
	refused(p, api.ErrCorrupt)
	must(t, "Rollback", p.Rollback())
	must(t, "Begin", p.Begin())
	if a := create(t, p); a.Root() != 9 {
		t.Errorf("Root = %d", a.Root())
	}
}

func TestP11_1Open(t *testing.T) {
	d := disk(t)
	p := begun(t, d)
	a := create(t, p)
	b := btree.Open(p, a.Root())
	put(t, a, "k", "v")
	put(t, b, "l", "w")
	for _, x := range []*btree.Tree{a, b} {
		has(t, x, "k", "v")
		has(t, x, "l", "w")
	}
	p = again(t, d, p)
	check(t, p, btree.Open(p, a.Root()), map[string]string{"k": "v", "l": "w"})
	// Nothing is read by Open.
	must(t, "Commit", p.Commit())
	down(d)
	for _, root := range []int{1, 0, 2, -1, 4095, 4096, math.MinInt, math.MaxInt} {
		for _, p := range []*pager.Pager{p, nil, {}} {
			x := btree.Open(p, root)
			if x == nil || x.Root() != root {
				t.Fatalf("Open = %v, want a tree with the root %d", x, root)
			}
			if p == nil || p.Pages() == 0 {
				refuses(t, x, api.ErrNil, api.ErrTx)
			}
		}
	}
}

// refuses holds that all methods of a tree but Root return an error, those that change it another one.
func refuses(t *testing.T, a *btree.Tree, want, changing api.Errno) {
	t.Helper()
	for _, n := range []int{1, 0, -1, math.MaxInt} {
		if x, code := a.Node(n); x.Leaf || len(x.Keys)+len(x.Cells)+len(x.Kids) > 0 || code != want {
			t.Errorf("Node = %v %v, want %v", x, code, want)
		}
	}
	if v, code := a.Value(node.Cell{Len: 121, Page: 1}); len(v) != 0 || code != want {
		t.Errorf("Value = %v %v, want %v", v, code, want)
	}
	for _, k := range []string{"", "k", strings.Repeat("k", 101)} {
		if v, is, code := a.Get(k); len(v) != 0 || is || code != want {
			t.Errorf("Get = %v %v %v, want %v", v, is, code, want)
		}
		wants(t, "Put", a.Put(k, nil), changing)
		wants(t, "Put", a.Put(k, make([]byte, 8193)), changing)
		if was, code := a.Del(k); was || code != changing {
			t.Errorf("Del = %v %v, want %v", was, code, changing)
		}
	}
	wants(t, "Drop", a.Drop(), changing)
}

func TestP11_1NoTree(t *testing.T) {
	for _, a := range []*btree.Tree{nil, {}, new(btree.Tree)} {
		refuses(t, a, api.ErrNil, api.ErrNil)
		if a.Root() != 0 {
			t.Errorf("Root = %d", a.Root())
		}
		for _, c := range []node.Cell{{}, {Len: 1}, {Len: 1, Data: "v"}} {
			if v, code := a.Value(c); len(v) != 0 || code != api.ErrNil {
				t.Errorf("Value = %v %v", v, code)
			}
		}
	}
}

func TestP11_2Node(t *testing.T) {
	d := disk(t)
	p := begun(t, d)
	a := create(t, p)
	for range 4 {
		_, code := p.Alloc()
		must(t, "Alloc", code)
	}
	l := map[int]node.Node{
		2: {Leaf: true, Keys: keys{"", "k"}, Cells: cells{{Len: 2, Data: "vw"}, {Len: 121, Page: 9}}},
		3: {Keys: keys{"k"}, Kids: kids{4095, 1}},
	}
	for n, x := range l {
		must(t, "Put", p.Put(n, page(t, x)))
	}
	must(t, "Put", p.Put(5, bytes.Repeat([]byte{1}, 512)))
	p = again(t, d, p)
	a = btree.Open(p, a.Root())
	for n, want := range l {
		x, code := a.Node(n)
		if code != api.OK || !node.Same(x, want) {
			t.Errorf("Node(%d) = %v %v, want %v", n, x, code, want)
		}
		// The node is new memory.
		clear(x.Keys)
		clear(x.Cells)
		clear(x.Kids)
		if x, _ := a.Node(n); !node.Same(x, want) {
			t.Errorf("Node(%d) = %v, want %v", n, x, want)
		}
	}
	no := func(n int, want api.Errno) {
		t.Helper()
		if x, code := a.Node(n); x.Leaf || len(x.Keys)+len(x.Cells)+len(x.Kids) > 0 || code != want {
			t.Errorf("Node(%d) = %v %v, want %v", n, x, code, want)
		}
	}
	for _, n := range []int{0, -1, math.MinInt, 6, 7, 4095, 4096, math.MaxInt} {
		no(n, api.ErrArg)
	}
	no(4, api.ErrCorrupt)
	no(5, api.ErrCorrupt)
	down(d)
	no(2, api.ErrDown)
	no(5, api.ErrDown)
	no(6, api.ErrArg)
}

// chain are the overflow pages of a value by the chapter, on the pages from a number on.
func chain(v string, from int) [][]byte {
	var l [][]byte
	for at := 0; at < len(v); at += 508 {
		next := 0
		if at+508 < len(v) {
			next = from + len(l) + 1
		}
		b := append(number(next), v[at:min(at+508, len(v))]...)
		l = append(l, append(b, make([]byte, 512-len(b))...))
	}
	return l
}

// sizes are lengths of values, in cells and on overflow pages, at the edges of both.
var sizes = []int{0, 1, 2, 119, 120, 121, 122, 507, 508, 509, 510, 1015, 1016, 1017, 1523, 1524, 1525, 4000, 8127, 8128, 8129, 8191, 8192}

func TestP11_2Value(t *testing.T) {
	next := chance(1)
	for _, size := range sizes {
		v := next.text(size)
		p := laid(t, append([][]byte{leaf(t)}, chain(v, 2)...)...)
		a, c := btree.Open(p, 1), node.Cell{Len: size, Data: v}
		if size > 120 {
			c = node.Cell{Len: size, Page: 2}
		}
		got, code := a.Value(c)
		if string(got) != v || code != api.OK {
			t.Errorf("Value of %d bytes = %d bytes, %v", size, len(got), code)
		}
		clear(got)
		if got, _ := a.Value(c); string(got) != v {
			t.Errorf("Value of %d bytes is not new memory", size)
		}
		if size <= 120 {
			continue
		}
		// What follows the value does not count.
		last := p.Pages() - 1
		b := image(t, p, last)
		copy(b, number(1<<31))
		for i := 4 + (size-1)%508 + 1; i < 512; i++ {
			b[i] = 255
		}
		must(t, "Put", p.Put(last, b))
		if got, code := a.Value(c); string(got) != v || code != api.OK {
			t.Errorf("Value of %d bytes = %d bytes, %v", size, len(got), code)
		}
	}
}

// noValue holds that a cell's value cannot be read.
func noValue(t *testing.T, a *btree.Tree, c node.Cell, want api.Errno) {
	t.Helper()
	if v, code := a.Value(c); len(v) != 0 || code != want {
		t.Errorf("Value(%v) = %d bytes, %v, want %v", c, len(v), code, want)
	}
}

func TestP11_2ValueErrors(t *testing.T) {
	p := laid(t, append([][]byte{leaf(t)}, chain(strings.Repeat("v", 8192), 2)...)...)
	a := btree.Open(p, 1)
	for _, c := range []node.Cell{
		{Len: -1}, {Len: math.MinInt}, {Len: 1}, {Len: 1, Data: "vw"}, {Len: 2, Data: "v"}, {Data: "v"}, {Page: 1}, {Len: 1, Data: "v", Page: 2}, {Len: 120, Page: 2},
		{Len: 120, Data: strings.Repeat("v", 119)}, {Len: 121, Data: strings.Repeat("v", 121)}, {Len: 121, Data: strings.Repeat("v", 121), Page: 2}, {Len: 121, Data: "v", Page: 2},
		{Len: 121}, {Len: 121, Page: -1}, {Len: 121, Page: 4096}, {Len: 121, Page: math.MaxInt}, {Len: 121, Page: math.MinInt}, {Len: 8193, Page: 2}, {Len: math.MaxInt, Page: 2},
	} {
		noValue(t, a, c, api.ErrForm)
	}
	for _, n := range []int{19, 20, 4095} {
		noValue(t, a, node.Cell{Len: 121, Page: n}, api.ErrArg)
	}
	// A page that is missing in the middle, or at the end.
	for n := 2; n <= 17; n++ {
		b := image(t, p, n)
		for _, c := range []struct {
			next int
			want api.Errno
		}{{0, api.ErrCorrupt}, {19, api.ErrArg}, {4096, api.ErrArg}, {1 << 31, api.ErrArg}, {1<<32 - 1, api.ErrArg}} {
			must(t, "Put", p.Put(n, append(number(c.next), b[4:]...)))
			noValue(t, a, node.Cell{Len: 8192, Page: 2}, c.want)
			noValue(t, a, node.Cell{Len: 508*(n-1) + 1, Page: 2}, c.want)
			if v, code := a.Value(node.Cell{Len: 508 * (n - 1), Page: 2}); len(v) != 508*(n-1) || code != api.OK {
				t.Errorf("Value = %d bytes, %v", len(v), code)
			}
		}
		must(t, "Put", p.Put(n, b))
	}
	noValue(t, a, node.Cell{Len: 509, Page: 18}, api.ErrCorrupt)
	// A page that follows itself is as long as any value.
	must(t, "Put", p.Put(2, append(number(2), bytes.Repeat([]byte("w"), 508)...)))
	if v, code := a.Value(node.Cell{Len: 8192, Page: 2}); string(v) != strings.Repeat("w", 8192) || code != api.OK {
		t.Errorf("Value = %d bytes, %v", len(v), code)
	}
}

func TestP11_2ValueDown(t *testing.T) {
	d := disk(t)
	p := begun(t, d)
	a := create(t, p)
	put(t, a, "k", strings.Repeat("v", 600))
	must(t, "Commit", p.Commit())
	n, code := a.Node(1)
	must(t, "Node", code)
	down(d)
	noValue(t, a, n.Cells[0], api.ErrDown)
	noValue(t, a, node.Cell{Len: 121, Page: 99}, api.ErrArg)
	noValue(t, a, node.Cell{Len: 121}, api.ErrForm)
	if v, code := a.Value(node.Cell{Len: 1, Data: "v"}); string(v) != "v" || code != api.OK {
		t.Errorf("Value = %v %v", v, code)
	}
	if v, is, code := a.Get("k"); len(v) != 0 || is || code != api.ErrDown {
		t.Errorf("Get = %v %v %v", v, is, code)
	}
}

// threeLevels is a pager in a transaction with a tree of seven pages; the leaves are the pages 4 to 7.
func threeLevels(t *testing.T) *pager.Pager {
	t.Helper()
	return laid(t, inner(t, kids{2, 3}, "m"), inner(t, kids{4, 5}, "f"), inner(t, kids{6, 7}, "s"), leaf(t, "b", "d"), leaf(t, "f", "h"), leaf(t, "m", "o"), leaf(t, "t", "v"))
}

func TestP11_2Get(t *testing.T) {
	p := threeLevels(t)
	a := btree.Open(p, 1)
	l := keys{"b", "d", "f", "h", "m", "o", "t", "v"}
	for _, k := range l {
		has(t, a, k, k)
	}
	for _, k := range []string{"", "\x00", "a", "b\x00", "c", "e", "g", "l", "m\x00", "n", "s", "u", "w", "\xff", strings.Repeat("b", 100), strings.Repeat("b", 101), strings.Repeat("z", 9999)} {
		hasNot(t, a, k)
	}
	// A damaged page is met by the keys below it, and by no others.
	for n, from := range map[int][2]string{1: {"", "z"}, 2: {"", "l"}, 3: {"m", "z"}, 4: {"", "e"}, 5: {"f", "l"}, 6: {"m", "r"}, 7: {"s", "z"}} {
		b := image(t, p, n)
		must(t, "Put", p.Put(n, make([]byte, 512)))
		for _, k := range append(keys{"a", "g", "n", "z"}, l...) {
			v, is, code := a.Get(k)
			if below := k >= from[0] && k <= from[1]; below && (code != api.ErrCorrupt || is || len(v) > 0) || !below && (code != api.OK || is != slices.Contains(l, k)) {
				t.Errorf("page %d: Get(%q) = %q %v %v", n, k, v, is, code)
			}
		}
		must(t, "Put", p.Put(n, b))
	}
}

func TestP11_2GetErrors(t *testing.T) {
	long := func(size, n int) []byte {
		return page(t, node.Node{Leaf: true, Keys: keys{"k"}, Cells: cells{{Len: size, Page: n}}})
	}
	for _, c := range []struct {
		root  int
		want  api.Errno
		pages [][]byte
	}{
		{0, api.ErrArg, nil}, {1, api.ErrArg, nil}, {-1, api.ErrArg, nil}, {math.MaxInt, api.ErrArg, nil}, {2, api.ErrArg, [][]byte{leaf(t, "k")}},
		{1, api.ErrCorrupt, [][]byte{make([]byte, 512)}}, {1, api.ErrCorrupt, [][]byte{bytes.Repeat([]byte{2}, 512)}},
		{1, api.ErrArg, [][]byte{inner(t, kids{1, 2}, "a")}}, {1, api.ErrArg, [][]byte{inner(t, kids{1, 4095}, "k")}},
		{1, api.ErrCorrupt, [][]byte{inner(t, kids{1, 2}, "k"), number512(7)}},
		{1, api.ErrArg, [][]byte{long(121, 2)}}, {1, api.ErrCorrupt, [][]byte{long(509, 2), number512(0)}}, {1, api.ErrArg, [][]byte{long(509, 2), number512(3)}},
		// Pages that form a circle have no leaf.
		{1, api.ErrCorrupt, [][]byte{inner(t, kids{1, 1}, "k")}}, {1, api.ErrCorrupt, [][]byte{inner(t, kids{9, 2}, "k"), inner(t, kids{9, 1}, "j")}},
	} {
		p := laid(t, c.pages...)
		a := btree.Open(p, c.root)
		if v, is, code := a.Get("k"); len(v) != 0 || is || code != c.want {
			t.Errorf("Get = %v %v %v, want %v: %v", v, is, code, c.want, c.pages)
		}
	}
	p := laid(t, long(121, 2), number512(0))
	if v, is, code := btree.Open(p, 1).Get("k"); len(v) != 121 || !is || code != api.OK {
		t.Errorf("Get = %v %v %v", v, is, code)
	}
}

// number512 is a page that begins with a number.
func number512(n int) []byte { return append(number(n), make([]byte, 508)...) }
