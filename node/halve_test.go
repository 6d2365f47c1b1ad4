package node_test

import (
	"slices"
	"strings"
	"testing"

	"hindsight/node"
)

// front is the node of the first keys of n.
func front(n node.Node, count int) node.Node {
	if n.Leaf {
		return node.Node{Leaf: true, Keys: n.Keys[:count], Cells: n.Cells[:count]}
	}
	return node.Node{Keys: n.Keys[:count], Kids: n.Kids[:count+1]}
}

// back is the node of the keys of n from an index on.
func back(n node.Node, from int) node.Node {
	if n.Leaf {
		return node.Node{Leaf: true, Keys: n.Keys[from:], Cells: n.Cells[from:]}
	}
	return node.Node{Keys: n.Keys[from:], Kids: n.Kids[from:]}
}

// share is the number of keys of the first half, by the chapter's words.
func share(n node.Node) int {
	most := len(n.Keys) - 1
	if !n.Leaf {
		most--
	}
	count := 1
	for count < most && 2*node.Size(front(n, count)) < node.Size(n) {
		count++
	}
	if node.Size(front(n, count)) > 512 && count > 1 {
		count--
	}
	return count
}

// checkHalve holds Halve of a node that can be halved against the chapter.
func checkHalve(t *testing.T, n node.Node) {
	t.Helper()
	count := share(n)
	rest := count
	if !n.Leaf {
		rest++
	}
	a, key, b := node.Halve(n)
	if !node.Same(a, front(n, count)) || key != n.Keys[count] || !node.Same(b, back(n, rest)) {
		t.Fatalf("Halve(%v) = %v %q %v, want %d keys in the first half", n, a, key, b, count)
	}
	if !node.Right(a) || !node.Right(b) || len(a.Keys) == 0 || len(b.Keys) == 0 {
		t.Fatalf("Halve(%v) = %v %q %v", n, a, key, b)
	}
}

// values is a leaf with values of those lengths.
func values(sizes ...int) node.Node {
	n := node.Node{Leaf: true, Keys: names(len(sizes), 3)}
	for _, size := range sizes {
		n.Cells = append(n.Cells, short(strings.Repeat("v", size)))
	}
	return n
}

// lengths is a node that is not a leaf, with keys of those lengths.
func lengths(sizes ...int) node.Node {
	n := inner()
	for i, size := range sizes {
		n.Keys = append(n.Keys, string([]byte{byte(i)})+strings.Repeat("k", size-1))
		n.Kids = append(n.Kids, i+2)
	}
	return n
}

// crowded is a leaf whose first three keys make 360 bytes, the next one so many more, and the last two 220.
func crowded(size int) node.Node {
	n := node.Node{Leaf: true, Keys: keys{"a", "b", "c", "d" + strings.Repeat("d", size-124), "e", "f"}}
	for _, size := range []int{115, 115, 115, 120, 120, 92} {
		n.Cells = append(n.Cells, short(strings.Repeat("v", size)))
	}
	return n
}

func TestP10_3Counts(t *testing.T) {
	for i, c := range []struct {
		n     node.Node
		count int
	}{
		{values(0, 0), 1}, {values(0, 120), 1}, {values(120, 0), 1},
		// 3 + 6 bytes are less than half of 3 + 18.
		{values(0, 0, 0), 2}, {values(0, 0, 0, 0), 2}, {values(0, 0, 0, 0, 0), 3},
		// 3 + 9 are exactly half of 3 + 21, 3 + 8 are half a byte less than half of 3 + 20.
		{values(3, 0, 0), 1}, {values(2, 0, 0), 2}, {values(4, 0, 0), 1},
		// The second half has at least one key, however long it is.
		{values(0, 0, 120), 2}, {values(0, 0, 0, 0, 120), 4}, {values(120, 0, 0), 1}, {values(120, 0, 0, 0, 0), 1},
		// A value of 121 bytes or more takes 4 of a node.
		{node.Node{Leaf: true, Keys: keys{"a", "b", "c"}, Cells: cells{long(8192, 1), {}, {}}}, 1},
		{node.Node{Leaf: true, Keys: keys{"a", "b", "c"}, Cells: cells{{}, {}, long(8192, 1)}}, 2},
		// With 512 bytes the first half keeps its last key, with one more it does not.
		{crowded(140), 3}, {crowded(141), 4}, {crowded(151), 4}, {crowded(152), 4}, {crowded(153), 3}, {crowded(223), 3},
		{leaf(names(1000, 5)...), 499},
		{lengths(1, 1, 1), 1}, {lengths(1, 1, 100), 1}, {lengths(100, 1, 1), 1}, {lengths(1, 1, 1, 1), 2}, {lengths(1, 1, 1, 1, 1), 2},
		{lengths(1, 1, 1, 100), 2}, {lengths(1, 1, 1, 1, 1, 100), 4}, {lengths(100, 1, 1, 1, 1), 1},
		// 7 + 11 bytes are exactly half of 7 + 29, 7 + 10 are half a byte less than half of 7 + 28.
		{lengths(6, 1, 1, 1), 1}, {lengths(5, 1, 1, 1), 2}, {lengths(7, 1, 1, 1), 1},
		{lengths(100, 100, 100, 100, 80, 100, 100, 100, 30), 5}, {lengths(100, 100, 100, 100, 81, 100, 100, 100, 30), 4},
		{lengths(100, 100, 100, 100, 100, 100, 100, 100, 100), 4}, {lengths(100, 100, 100, 100, 100, 100, 100, 100), 4},
		{inner(names(1000, 5)...), 499},
	} {
		a, key, b := node.Halve(c.n)
		if len(a.Keys) != c.count || key != c.n.Keys[c.count] {
			t.Errorf("%d: Halve = %d keys, %q, %d keys, want %d", i, len(a.Keys), key, len(b.Keys), c.count)
		}
		checkHalve(t, c.n)
	}
}

func TestP10_3Halves(t *testing.T) {
	n := node.Node{Leaf: true, Keys: keys{"a", "b", "c"}, Cells: cells{short("x"), long(300, 7), short("y")}}
	a, key, b := node.Halve(n)
	wantA := node.Node{Leaf: true, Keys: keys{"a", "b"}, Cells: cells{short("x"), long(300, 7)}}
	if !node.Same(a, wantA) || key != "c" || !node.Same(b, one("c", short("y"))) {
		t.Errorf("Halve(%v) = %v %q %v", n, a, key, b)
	}
	n = node.Node{Keys: keys{"a", "b", "c"}, Kids: kids{9, 8, 7, 6}}
	a, key, b = node.Halve(n)
	if !node.Same(a, node.Node{Keys: keys{"a"}, Kids: kids{9, 8}}) || key != "b" || !node.Same(b, node.Node{Keys: keys{"c"}, Kids: kids{7, 6}}) {
		t.Errorf("Halve(%v) = %v %q %v", n, a, key, b)
	}
}

func TestP10_3TooFew(t *testing.T) {
	for _, n := range []node.Node{{}, leaf(), leaf(""), leaf("a"), one("a", short(strings.Repeat("v", 120))), inner("a"), inner("a", "b"), {Kids: kids{1}}} {
		if a, key, b := node.Halve(n); !isZero(a) || key != "" || !isZero(b) {
			t.Errorf("Halve(%v) = %v %q %v", n, a, key, b)
		}
	}
}

func TestP10_3ByDefinition(t *testing.T) {
	next := chance(2)
	for range 4000 {
		n := next.node()
		if len(n.Keys) >= 3 || n.Leaf && len(n.Keys) == 2 {
			checkHalve(t, n)
		}
	}
}

// TestP10_3Memory holds that neither half shares memory with the node or with the other half.
func TestP10_3Memory(t *testing.T) {
	for _, made := range []func() node.Node{func() node.Node { return values(1, 2, 3, 4) }, func() node.Node { return inner(names(6, 3)...) }} {
		n := made()
		a, _, b := node.Halve(n)
		wantA, _, wantB := node.Halve(made())
		for i := range n.Keys {
			n.Keys[i] = "changed"
		}
		clear(n.Cells)
		clear(n.Kids)
		if !node.Same(a, wantA) || !node.Same(b, wantB) {
			t.Errorf("the halves are %v and %v", a, b)
		}
		_ = append(a.Keys, "more")
		_ = append(a.Cells, node.Cell{Len: 9})
		_ = append(a.Kids, 9)
		if !node.Same(b, wantB) {
			t.Errorf("the second half is %v", b)
		}
	}
}

// joined is the node of which a and b are the halves.
func joined(a node.Node, key string, b node.Node) node.Node {
	n := node.Node{Leaf: a.Leaf, Keys: slices.Clone(a.Keys)}
	if !a.Leaf {
		n.Keys = append(n.Keys, key)
	}
	n.Keys = append(n.Keys, b.Keys...)
	n.Cells = slices.Concat(a.Cells, b.Cells)
	n.Kids = slices.Concat(a.Kids, b.Kids)
	return n
}

// grow adds a key to a node, in its place, and the cell or the kid behind it.
func grow(n node.Node, key string, c node.Cell, kid int) node.Node {
	i, is := node.Find(n, key)
	if is {
		return n
	}
	n.Keys = slices.Insert(slices.Clone(n.Keys), i, key)
	if n.Leaf {
		n.Cells = slices.Insert(slices.Clone(n.Cells), i, c)
	} else {
		n.Kids = slices.Insert(slices.Clone(n.Kids), i+1, kid)
	}
	return n
}

// TestP10_5 grows nodes key by key until one does not fit on a page: then its halves do.
func TestP10_5(t *testing.T) {
	next := chance(3)
	for i := range 4000 {
		n := leaf()
		if i%2 == 0 {
			n = inner(next.text(100))
		}
		// Small keys and values, or great ones, or both.
		size, value := 1+next.below(100), next.below(121)
		for node.Size(n) <= 512 {
			if next.below(5) == 0 {
				size, value = 1+next.below(100), next.below(121)
			}
			c := short(next.text(value))
			if next.below(8) == 0 {
				c = next.cell()
			}
			n = grow(n, next.text(size), c, 1+next.below(4095))
		}
		a, key, b := node.Halve(n)
		if !node.Same(joined(a, key, b), n) || len(a.Keys) == 0 || len(b.Keys) == 0 {
			t.Fatalf("Halve(%v) = %v %q %v", n, a, key, b)
		}
		if node.Size(a) > 512 || node.Size(b) > 512 || node.Size(a) == 0 || node.Size(b) == 0 {
			t.Fatalf("Halve of %d bytes = %d and %d", node.Size(n), node.Size(a), node.Size(b))
		}
		for j := range a.Keys {
			checkSide(t, n, a, b, key, a.Keys[j], 0)
		}
		for j := range b.Keys {
			checkSide(t, n, a, b, key, b.Keys[j], 1)
		}
		if a.Leaf && key != b.Keys[0] {
			t.Fatalf("the separating key of %v and %v is %q", a, b, key)
		}
	}
}

// checkSide holds that the separating key leads to the half that has a key.
func checkSide(t *testing.T, n, a, b node.Node, key, k string, side int) {
	t.Helper()
	if node.Way(node.Node{Keys: keys{key}}, k) != side {
		t.Fatalf("the separating key of %v and %v is %q", a, b, key)
	}
	if _, is := node.Find(n, k); !is {
		t.Fatalf("%q is not in %v", k, n)
	}
}

// TestP10_5Worst has the greatest key and value at each place of a full node.
func TestP10_5Worst(t *testing.T) {
	great := short(strings.Repeat("v", 120))
	for _, size := range []int{3, 4, 7, 12, 25, 40, 60, 100} {
		n, w := leaf(), inner("")
		for i := 0; node.Size(n)+3+size <= 512; i++ {
			n = grow(n, string([]byte{0, byte(i)})+strings.Repeat("k", size-2), node.Cell{}, 0)
		}
		for i := 0; node.Size(w)+5+size <= 512; i++ {
			w = grow(w, string([]byte{0, byte(i)})+strings.Repeat("k", size-2), node.Cell{}, 1)
		}
		for i := range 256 {
			for _, full := range []node.Node{n, w} {
				m := grow(full, string([]byte{0, byte(i)})+strings.Repeat("z", 98), great, 1)
				a, key, b := node.Halve(m)
				if node.Size(m) > 512 && (node.Size(a) > 512 || node.Size(b) > 512) || !node.Same(joined(a, key, b), m) {
					t.Fatalf("Halve of %d bytes = %d and %d", node.Size(m), node.Size(a), node.Size(b))
				}
			}
		}
	}
}
