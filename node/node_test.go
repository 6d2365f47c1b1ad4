package node_test

import (
	"math"
	"strings"
	"testing"

	"hindsight/api"
	"hindsight/node"
)

// Short names for what the tests make by the dozen.
type (
	cells = []node.Cell
	keys  = []string
	kids  = []int
)

// short is the cell of a value that is in it.
func short(s string) node.Cell { return node.Cell{Len: len(s), Data: s} }

// long is the cell of a value in overflow pages.
func long(size, page int) node.Cell { return node.Cell{Len: size, Page: page} }

// leaf is a leaf of keys with empty values.
func leaf(l ...string) node.Node {
	return node.Node{Leaf: true, Keys: l, Cells: make(cells, len(l))}
}

// inner is another node, with kids from 1 on.
func inner(l ...string) node.Node {
	n := node.Node{Keys: l}
	for i := range len(l) + 1 {
		n.Kids = append(n.Kids, i%4095+1)
	}
	return n
}

// one is a leaf with one key and that cell.
func one(key string, c node.Cell) node.Node {
	return node.Node{Leaf: true, Keys: keys{key}, Cells: cells{c}}
}

// names are that many keys of some length, which increase.
func names(n, size int) []string {
	var l []string
	for i := range n {
		l = append(l, string([]byte{byte(i >> 16), byte(i >> 8), byte(i)})+strings.Repeat("k", size-3))
	}
	return l
}

// isZero reports whether a node is the zero one.
func isZero(n node.Node) bool {
	return !n.Leaf && len(n.Keys) == 0 && len(n.Cells) == 0 && len(n.Kids) == 0
}

// sized is a node and its size, 0 if it is not valid.
type sized struct {
	n    node.Node
	size int
}

// valid are nodes that are valid.
func valid() []sized {
	k100, v120 := strings.Repeat("k", 100), strings.Repeat("v", 120)
	return []sized{
		{node.Node{Leaf: true}, 3},
		{node.Node{Leaf: true, Keys: keys{}, Cells: cells{}, Kids: kids{}}, 3},
		{leaf(""), 6},
		{leaf("a"), 7},
		{leaf(k100), 106},
		{leaf("", "\x00", "\x00\x00", "\x01", "a", "ab", "b", "\x7f", "\x80", "\xff", "\xff\xff"), 3 + 11*3 + 13},
		{one("a", short("xyz")), 10},
		{one("a", short("\x00\xff")), 9},
		{one("", short(v120)), 126},
		{one(k100, short(v120)), 226},
		{one("a", long(121, 1)), 11},
		{one("a", long(8192, 4095)), 11},
		{node.Node{Leaf: true, Keys: keys{"a", "b"}, Cells: cells{long(200, 7), short("x")}}, 16},
		{inner(""), 12},
		{inner("a"), 13},
		{inner(k100), 112},
		{inner("", "a", "ab", "\x7f", "\x80"), 7 + 5*5 + 5},
		{node.Node{Keys: keys{"a"}, Cells: cells{}, Kids: kids{4095, 1}}, 13},
		{node.Node{Keys: keys{"a", "b"}, Kids: kids{7, 7, 7}}, 19},
		{leaf(names(1000, 5)...), 3 + 1000*8},
		{inner(names(1000, 5)...), 7 + 1000*10},
		{leaf(names(70000, 3)...), 3 + 70000*6},
	}
}

// wrong are nodes that are not valid.
func wrong() []node.Node {
	k101 := strings.Repeat("k", 101)
	a, c := keys{"a"}, node.Cell{}
	return []node.Node{
		{},
		// The keys.
		leaf(k101), inner(k101), leaf("a", k101), inner("a", k101),
		leaf("a", "a"), inner("a", "a"), leaf("b", "a"), inner("b", "a"), leaf("a", "b", "b"), leaf("a", "c", "b"), inner("a", "c", "b"),
		leaf("ab", "a"), leaf("a", ""), leaf("\x80", "\x7f"), inner("\xff", "a"), leaf("", ""), inner("", ""),
		// As many cells, or one more kid.
		{Leaf: true, Keys: a}, {Leaf: true, Cells: cells{c}}, {Leaf: true, Keys: a, Cells: cells{c, c}},
		{Leaf: true, Keys: keys{"a", "b"}, Cells: cells{c}},
		{Kids: kids{1}}, {Keys: a}, {Keys: a, Kids: kids{1}}, {Keys: a, Kids: kids{1, 2, 3}}, {Kids: kids{1, 2}},
		// Not both.
		{Leaf: true, Keys: a, Cells: cells{c}, Kids: kids{1}}, {Leaf: true, Kids: kids{1}},
		{Leaf: true, Keys: a, Cells: cells{c}, Kids: kids{1, 2}}, {Leaf: true, Keys: a, Kids: kids{1, 2}},
		{Keys: a, Cells: cells{c}, Kids: kids{1, 2}}, {Keys: a, Cells: cells{c}},
		// The kids.
		{Keys: a, Kids: kids{0, 1}}, {Keys: a, Kids: kids{1, 0}}, {Keys: a, Kids: kids{1, 4096}}, {Keys: a, Kids: kids{4096, 1}},
		{Keys: a, Kids: kids{-1, 1}}, {Keys: a, Kids: kids{1, math.MinInt}}, {Keys: a, Kids: kids{1, math.MaxInt}}, {Keys: a, Kids: kids{1, 1<<32 + 1}},
		{Keys: keys{"a", "b"}, Kids: kids{1, 0, 1}},
		// The cells.
		one("a", node.Cell{Len: 1}), one("a", node.Cell{Data: "x"}), one("a", node.Cell{Len: 2, Data: "x"}), one("a", node.Cell{Len: 1, Data: "xy"}),
		one("a", node.Cell{Page: 1}), one("a", node.Cell{Len: 1, Data: "x", Page: 1}), one("a", node.Cell{Page: -1}),
		one("a", node.Cell{Len: -1}), one("a", node.Cell{Len: math.MinInt}), one("a", node.Cell{Len: -1, Page: 1}),
		one("a", long(120, 1)), one("a", long(121, 0)), one("a", long(121, 4096)), one("a", long(121, -1)), one("a", long(121, math.MaxInt)),
		one("a", long(8193, 1)), one("a", long(math.MaxInt, 1)), one("a", long(1<<16+5, 1)),
		one("a", short(strings.Repeat("v", 121))), one("a", node.Cell{Len: 121, Data: strings.Repeat("v", 121), Page: 1}),
		one("a", node.Cell{Len: 121, Data: "v", Page: 1}),
		{Leaf: true, Keys: keys{"a", "b"}, Cells: cells{c, {Len: 1}}},
	}
}

func TestP10_1Valid(t *testing.T) {
	for i, c := range valid() {
		if !node.Right(c.n) || node.Size(c.n) != c.size {
			t.Errorf("%d: Right = %v, Size = %d, want %d", i, node.Right(c.n), node.Size(c.n), c.size)
		}
	}
}

func TestP10_1Wrong(t *testing.T) {
	for i, n := range wrong() {
		if node.Right(n) || node.Size(n) != 0 {
			t.Errorf("%d: Right(%v) = %v, Size = %d", i, n, node.Right(n), node.Size(n))
		}
		if b, code := node.Write(n); len(b) != 0 || code != api.ErrForm {
			t.Errorf("%d: Write(%v) = %v %v", i, n, b, code)
		}
		if a, key, b := node.Halve(n); !isZero(a) || key != "" || !isZero(b) {
			t.Errorf("%d: Halve(%v) = %v %q %v", i, n, a, key, b)
		}
		if !node.Same(n, n) {
			t.Errorf("%d: Same(%v) of itself is false", i, n)
		}
		node.Find(n, "a")
		node.Way(n, "a")
	}
}

func TestP10_1Same(t *testing.T) {
	a := keys{"a"}
	l := []node.Node{
		{}, {Leaf: true}, leaf("a"), inner("a"), leaf("b"), leaf("a", "b"), leaf("b", "a"), inner("a", "b"), inner("", "b"),
		one("a", short("x")), one("a", short("y")), one("a", node.Cell{Len: 2, Data: "x"}), one("a", node.Cell{Len: 1, Data: "x", Page: 1}),
		one("a", long(200, 1)), one("a", long(200, 2)), one("a", long(201, 1)),
		{Leaf: true, Keys: a}, {Keys: a}, {Keys: a, Kids: kids{1}}, {Keys: a, Kids: kids{2, 1}}, {Kids: kids{1, 2}}, {Leaf: true, Kids: kids{1, 2}},
		{Cells: cells{{}}}, {Cells: cells{{}, {}}}, {Leaf: true, Cells: cells{{}}}, {Leaf: true, Keys: a, Cells: cells{{}}, Kids: kids{1}},
		{Keys: keys{""}}, {Kids: kids{0}},
	}
	for i, x := range l {
		for j, y := range l {
			if node.Same(x, y) != (i == j) {
				t.Errorf("Same(%v, %v) = %v", x, y, i != j)
			}
		}
	}
	empty := node.Node{Keys: keys{}, Cells: cells{}, Kids: kids{}}
	if !node.Same(node.Node{}, empty) || !node.Same(empty, node.Node{}) {
		t.Error("empty lists differ from nil")
	}
	if node.Same(leaf("a"), node.Node{Leaf: true, Keys: append(a, "b")[:1], Cells: make(cells, 1, 2)}) != true {
		t.Error("memory beyond the length of a list makes a difference")
	}
}

func TestP10_2(t *testing.T) {
	l := keys{"", "\x00", "a", "a\x00", "ab", "b", "\x7f", "\x80", "\xff", "\xff\xff"}
	asked := append(keys{"\x00\x00", "A", "aa", "abc", "c", "\x80\x00", "\xfe", "\xff\x00", "\xff\xff\xff", strings.Repeat("a", 300)}, l...)
	for from := range l {
		for to := from; to <= len(l); to++ {
			for _, n := range []node.Node{leaf(l[from:to]...), inner(l[from:to]...)} {
				for _, key := range asked {
					checkFind(t, n, key)
				}
			}
		}
	}
	n := leaf("b", "d")
	for key, want := range map[string][3]int{"a": {0, 0, 0}, "b": {0, 1, 1}, "c": {1, 1, 0}, "d": {1, 2, 1}, "e": {2, 2, 0}} {
		i, is := node.Find(n, key)
		if i != want[0] || is != (want[2] == 1) || node.Way(n, key) != want[1] {
			t.Errorf("Find(%q) = %d %v, Way %d, want %v", key, i, is, node.Way(n, key), want)
		}
	}
}

// checkFind holds Find and Way against the keys of a node, one by one.
func checkFind(t *testing.T, n node.Node, key string) {
	t.Helper()
	less, same := 0, 0
	for _, k := range n.Keys {
		if k < key {
			less++
		}
		if k == key {
			same++
		}
	}
	if i, is := node.Find(n, key); i != less || is != (same == 1) {
		t.Errorf("Find(%q, %q) = %d %v, want %d %v", n.Keys, key, i, is, less, same == 1)
	}
	if i := node.Way(n, key); i != less+same {
		t.Errorf("Way(%q, %q) = %d, want %d", n.Keys, key, i, less+same)
	}
}

func TestP10_2NoKeys(t *testing.T) {
	for _, n := range []node.Node{{}, {Leaf: true}, {Kids: kids{1}}} {
		if i, is := node.Find(n, ""); i != 0 || is || node.Way(n, "") != 0 || node.Way(n, "a") != 0 {
			t.Errorf("Find(%v) = %d %v", n, i, is)
		}
	}
}
