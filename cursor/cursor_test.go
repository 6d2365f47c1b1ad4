package cursor_test

import (
	"math"
	"strings"
	"testing"

	"hindsight/api"
	"hindsight/btree"
	"hindsight/cursor"
	"hindsight/node"
	"hindsight/pager"
)

func TestP12_1New(t *testing.T) {
	d, p, a, _ := threeLevels(t)
	down(d)
	for _, x := range []*btree.Tree{a, nil, {}, btree.Open(nil, 1), btree.Open(p, 0)} {
		c := cursor.New(x)
		if c == nil {
			t.Fatal("New = nil")
		}
		isAtNone(t, c)
	}
	must(t, "Crash", d.Crash(nil))
	// Two cursors of a tree do not move each other.
	b, c := cursor.New(a), cursor.New(a)
	must(t, "First", b.First())
	isAtNone(t, c)
	must(t, "Last", c.Last())
	isAt(t, b, "b", "b")
	isAt(t, c, "v", "v")
}

func TestP12_1NoCursor(t *testing.T) {
	_, _, a, _ := threeLevels(t)
	made := cursor.New(a)
	must(t, "First", made.First())
	other := *made
	for _, c := range []*cursor.Cursor{nil, {}, new(cursor.Cursor), &other} {
		for range 2 {
			for what, code := range map[string]api.Errno{"First": c.First(), "Last": c.Last(), "Seek": c.Seek("k"), "Next": c.Next(), "Prev": c.Prev()} {
				wants(t, what, code, api.ErrNil)
			}
			if v, code := c.Value(); len(v) != 0 || code != api.ErrNil {
				t.Errorf("Value = %v %v", v, code)
			}
			if c.At() || c.Key() != "" {
				t.Errorf("At %v, Key %q", c.At(), c.Key())
			}
		}
	}
	isAt(t, made, "b", "b")
}

// TestP12_1Value has values of all kinds, and those that cannot be read.
func TestP12_1Value(t *testing.T) {
	for _, size := range []int{0, 1, 120, 121, 508, 509, 1016, 1017, 8192} {
		v := strings.Repeat("v", size)
		a := tree(t, map[string]string{"k": v})
		c := cursor.New(a)
		must(t, "First", c.First())
		isAt(t, c, "k", v)
		got, _ := c.Value()
		clear(got)
		isAt(t, c, "k", v)
	}
	d, _, a := laid(t, page(t, node.Node{Leaf: true, Keys: keys{"", "b", "c", "d", "e"}, Cells: cells{{Len: 1, Data: "1"}, {Len: 121, Page: 2}, {Len: 509, Page: 2}, {Len: 509, Page: 3}, {Len: 121, Page: 9}}}),
		make([]byte, 512), append([]byte{0, 0, 15}, make([]byte, 509)...))
	c := cursor.New(a)
	must(t, "First", c.First())
	for i, want := range []api.Errno{api.OK, api.OK, api.ErrCorrupt, api.ErrArg, api.ErrArg} {
		// On an error of Value, the cursor stays at the pair.
		for range 2 {
			if v, code := c.Value(); code != want || code != api.OK && len(v) != 0 {
				t.Errorf("%d: Value = %d bytes, %v, want %v", i, len(v), code, want)
			}
			if !c.At() || c.Key() != (keys{"", "b", "c", "d", "e"})[i] {
				t.Errorf("%d: At %v, Key %q", i, c.At(), c.Key())
			}
		}
		must(t, "Next", c.Next())
	}
	isAtNone(t, c)
	must(t, "Seek", c.Seek("b"))
	down(d)
	if v, code := c.Value(); len(v) != 0 || code != api.ErrDown {
		t.Errorf("Value = %v %v", v, code)
	}
}

func TestP12_2Empty(t *testing.T) {
	c := cursor.New(tree(t, nil))
	for _, start := range []func() api.Errno{c.First, c.Last, func() api.Errno { return c.Seek("") }, func() api.Errno { return c.Seek("k") }} {
		must(t, "the start", start())
		isAtNone(t, c)
	}
}

// TestP12_2Moves moves a cursor of a tree with one leaf, and of one with three levels.
func TestP12_2Moves(t *testing.T) {
	_, _, a, l := threeLevels(t)
	one := map[string]string{}
	for _, k := range l {
		one[k] = k
	}
	for _, a := range []*btree.Tree{a, tree(t, one)} {
		c := cursor.New(a)
		for i, k := range l {
			must(t, "First", c.First())
			for range i {
				must(t, "Next", c.Next())
			}
			isAt(t, c, k, k)
			must(t, "Last", c.Last())
			for range len(l) - 1 - i {
				must(t, "Prev", c.Prev())
			}
			isAt(t, c, k, k)
			must(t, "Seek", c.Seek(k))
			isAt(t, c, k, k)
			checkBack(t, c, l, i)
		}
		must(t, "Last", c.Last())
		must(t, "Next behind the last pair", c.Next())
		isAtNone(t, c)
		must(t, "First", c.First())
		must(t, "Prev ahead of the first pair", c.Prev())
		isAtNone(t, c)
	}
}

// checkBack moves a cursor from pair i to both of its neighbours and back.
func checkBack(t *testing.T, c *cursor.Cursor, l []string, i int) {
	t.Helper()
	if i < len(l)-1 {
		must(t, "Next", c.Next())
		isAt(t, c, l[i+1], l[i+1])
		must(t, "Prev", c.Prev())
		isAt(t, c, l[i], l[i])
	}
	if i > 0 {
		must(t, "Prev", c.Prev())
		isAt(t, c, l[i-1], l[i-1])
		must(t, "Next", c.Next())
		isAt(t, c, l[i], l[i])
	}
}

func TestP12_2Seek(t *testing.T) {
	_, _, a, l := threeLevels(t)
	c := cursor.New(a)
	for k, want := range map[string]int{
		"": 0, "\x00": 0, "a": 0, "b": 0, "b\x00": 1, "c": 1, "d": 1, "e": 2, "ez": 2, "f": 2, "f\x00": 3, "g": 3, "h": 3, "h\x00": 4, "i": 4, "lzzz": 4,
		"m": 4, "n": 5, "o": 5, "p": 6, "s": 6, "t": 6, "t\x00": 7, "v": 7, "v\x00": 8, "w": 8, "\xff": 8, strings.Repeat("b", 101): 1, strings.Repeat("z", 9999): 8,
	} {
		must(t, "Seek", c.Seek(k))
		if want == len(l) {
			isAtNone(t, c)
		} else {
			isAt(t, c, l[want], l[want])
			checkBack(t, c, l, want)
		}
	}
}

// reached is the error of First and then Next, up to the first error or the end, and how many pairs were visited; with back, of Last and then Prev.
func reached(c *cursor.Cursor, back bool) (int, api.Errno) {
	start, move := c.First, c.Next
	if back {
		start, move = c.Last, c.Prev
	}
	n, code := 0, start()
	for code == api.OK && c.At() {
		n++
		code = move()
	}
	return n, code
}

// TestP12_2Damaged damages each page of a tree in turn: the moves that come to it return an error, and the cursor is at none.
func TestP12_2Damaged(t *testing.T) {
	for n, c := range map[int]struct {
		next, prev int // how many pairs are visited
		from, to   string
	}{1: {0, 0, "", "z"}, 2: {0, 4, "", "l"}, 3: {4, 0, "i", "z"}, 4: {0, 6, "", "e"}, 5: {2, 4, "e", "l"}, 6: {4, 2, "i", "r"}, 7: {6, 0, "p", "z"}} {
		_, p, a, _ := threeLevels(t)
		must(t, "Begin", p.Begin())
		must(t, "Put", p.Put(n, make([]byte, 512)))
		x := cursor.New(a)
		if visited, code := reached(x, false); visited != c.next || code != api.ErrCorrupt {
			t.Errorf("page %d: %d pairs are visited, %v, want %d", n, visited, code, c.next)
		}
		isAtNone(t, x)
		if visited, code := reached(x, true); visited != c.prev || code != api.ErrCorrupt {
			t.Errorf("page %d: %d pairs are visited backward, %v, want %d", n, visited, code, c.prev)
		}
		isAtNone(t, x)
		for _, k := range []string{"", "b", "c", "e", "f", "g", "i", "m", "n", "p", "s", "t", "v"} {
			code := x.Seek(k)
			if wrong := k >= c.from && k <= c.to; wrong && code != api.ErrCorrupt || !wrong && code != api.OK || x.At() != (code == api.OK) {
				t.Errorf("page %d: Seek(%q) = %v, At %v", n, k, code, x.At())
			}
		}
	}
}

func TestP12_2Errors(t *testing.T) {
	starts := func(x *btree.Tree, want api.Errno) {
		t.Helper()
		c := cursor.New(x)
		wants(t, "First", c.First(), want)
		isAtNone(t, c)
		wants(t, "Last", c.Last(), want)
		isAtNone(t, c)
		wants(t, "Seek", c.Seek("k"), want)
		isAtNone(t, c)
	}
	d, p, a, _ := threeLevels(t)
	starts(nil, api.ErrNil)
	starts(&btree.Tree{}, api.ErrNil)
	starts(btree.Open(nil, 1), api.ErrNil)
	starts(btree.Open(&pager.Pager{}, 1), api.ErrNil)
	for _, root := range []int{0, -1, 8, 4096, math.MaxInt, math.MinInt} {
		starts(btree.Open(p, root), api.ErrArg)
	}
	_, _, x := laid(t, inner(t, kids{4000, 4000}, "k"))
	starts(x, api.ErrArg)
	// An error takes a cursor off its pair.
	c := cursor.New(a)
	for _, move := range []func() api.Errno{c.First, c.Last, func() api.Errno { return c.Seek("k") }, c.Next, c.Prev} {
		must(t, "Seek", c.Seek("f"))
		must(t, "Next", c.Next())
		down(d)
		code := api.OK
		for code == api.OK && c.At() {
			code = move()
		}
		wants(t, "the move", code, api.ErrDown)
		isAtNone(t, c)
		starts(a, api.ErrDown)
		must(t, "Crash", d.Crash(nil))
		must(t, "First", c.First())
		isAt(t, c, "b", "b")
	}
}

// TestP12_2Circles has pages that form a circle or are there more than once: the calls end.
func TestP12_2Circles(t *testing.T) {
	shared := [][]byte{}
	for n := 1; n <= 60; n++ {
		shared = append(shared, inner(t, kids{n + 1, n + 1}, "k"))
	}
	for i, pages := range [][][]byte{
		{inner(t, kids{1, 1}, "k")}, {inner(t, kids{2, 2}, "k"), inner(t, kids{1, 1}, "k")},
		append(shared[:60:60], leaf(t)),
	} {
		_, _, a := laid(t, pages...)
		c := cursor.New(a)
		for what, call := range map[string]func() api.Errno{
			"First": c.First, "Last": c.Last, "Seek": func() api.Errno { return c.Seek("a") },
			"Count": func() api.Errno { _, code := cursor.Count(a); return code },
			"Range": func() api.Errno { _, code := cursor.Range(a, "", "z", math.MaxInt); return code },
		} {
			if code := call(); code != api.ErrCorrupt {
				t.Errorf("%d: %s = %v", i, what, code)
			}
			isAtNone(t, c)
		}
	}
	// One leaf that is there again and again: pairs are visited, but not for ever.
	_, _, a := laid(t, append(shared[:60:60], leaf(t, "a"))...)
	if n, code := cursor.Count(a); n != 0 || code != api.ErrCorrupt {
		t.Errorf("Count = %d %v", n, code)
	}
	if l, code := cursor.Range(a, "", "z", math.MaxInt); len(l) != 0 || code != api.ErrCorrupt {
		t.Errorf("Range = %d pairs, %v", len(l), code)
	}
	if l, code := cursor.Range(a, "", "z", 9); len(l) != 9 || code != api.OK {
		t.Errorf("Range = %d pairs, %v", len(l), code)
	}
	c := cursor.New(a)
	must(t, "First", c.First())
	for range 10000 {
		must(t, "Next", c.Next())
		must(t, "Next", c.Next())
		must(t, "Prev", c.Prev())
	}
	isAt(t, c, "a", "a")
}
