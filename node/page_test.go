package node_test

import (
	"bytes"
	"slices"
	"strings"
	"testing"

	"hindsight/api"
	"hindsight/node"
)

// page is the encoding, padded with zeros.
func page(parts ...any) []byte {
	var b []byte
	for _, p := range parts {
		switch p := p.(type) {
		case int:
			b = append(b, byte(p))
		case string:
			b = append(b, p...)
		}
	}
	return append(b, make([]byte, 512-len(b))...)
}

// chance is a sequence of numbers that is the same in every run.
type chance uint64

// below is the next number, from 0 to n - 1.
func (c *chance) below(n int) int {
	*c = *c*6364136223846793005 + 1442695040888963407
	return int(uint64(*c)>>33) % n
}

// text is a next text of at most that many bytes.
func (c *chance) text(most int) string {
	b := make([]byte, c.below(most+1))
	for i := range b {
		b[i] = byte(c.below(256))
	}
	return string(b)
}

// keys are next keys, at most so many and of at most so many bytes, which increase.
func (c *chance) keys(most, size int) []string {
	l := []string{c.text(size)}
	for range c.below(most) {
		l = append(l, c.text(size))
	}
	slices.Sort(l)
	return slices.Compact(l)
}

// cell is a next cell.
func (c *chance) cell() node.Cell {
	if c.below(4) == 0 {
		return long(121+c.below(8072), 1+c.below(4095))
	}
	return short(c.text(c.below(121)))
}

// node is a next valid node, of any size; half of them are leaves.
func (c *chance) node() node.Node {
	n := node.Node{Leaf: c.below(2) == 0, Keys: c.keys(30, 1+c.below(100))}
	if !n.Leaf {
		n.Kids = append(n.Kids, 1+c.below(4095))
	}
	for range n.Keys {
		if n.Leaf {
			n.Cells = append(n.Cells, c.cell())
		} else {
			n.Kids = append(n.Kids, 1+c.below(4095))
		}
	}
	return n
}

// check holds Write and Read against the page of a node.
func check(t *testing.T, n node.Node, want []byte) {
	t.Helper()
	b, code := node.Write(n)
	if code != api.OK || !bytes.Equal(b, want) {
		t.Errorf("Write(%v) = %v %v, want %v", n, b, code, want)
	}
	if m, code := node.Read(want); code != api.OK || !node.Same(n, m) {
		t.Errorf("Read(%v) = %v %v, want %v", want, m, code, n)
	}
}

// isNone reports an error if b is the page of a node.
func isNone(t *testing.T, b []byte) {
	t.Helper()
	if n, code := node.Read(b); code != api.ErrForm || !isZero(n) {
		t.Errorf("Read(%v) = %v %v", b, n, code)
	}
}

func TestP10_1Pages(t *testing.T) {
	k100, v120 := strings.Repeat("k", 100), strings.Repeat("v", 120)
	check(t, leaf(), page(1, 0, 0))
	check(t, leaf(""), page(1, 0, 1, 0, 0, 0))
	check(t, leaf("a", "bc"), page(1, 0, 2, 1, 0, 0, "a", 2, 0, 0, "bc"))
	check(t, one("a", short("xyz")), page(1, 0, 1, 1, 0, 3, "axyz"))
	check(t, one(k100, short(v120)), page(1, 0, 1, 100, 0, 120, k100, v120))
	check(t, one("a", long(121, 1)), page(1, 0, 1, 1, 0, 121, "a", 0, 0, 0, 1))
	check(t, one("a", long(8192, 4095)), page(1, 0, 1, 1, 32, 0, "a", 0, 0, 15, 255))
	check(t, node.Node{Leaf: true, Keys: keys{"a", "b"}, Cells: cells{long(300, 258), short("\x00")}},
		page(1, 0, 2, 1, 1, 44, "a", 0, 0, 1, 2, 1, 0, 1, "b", 0))
	check(t, inner(""), page(2, 0, 1, 0, 0, 0, 1, 0, 0, 0, 0, 2))
	check(t, node.Node{Keys: keys{"a", "bc"}, Kids: kids{4095, 1, 256}}, page(2, 0, 2, 0, 0, 15, 255, 1, "a", 0, 0, 0, 1, 2, "bc", 0, 0, 1, 0))
	check(t, inner(k100), page(2, 0, 1, 0, 0, 0, 1, 100, k100, 0, 0, 0, 2))
}

func TestP10_1Long(t *testing.T) {
	v120 := strings.Repeat("v", 120)
	big := func(size int) node.Node {
		return node.Node{Leaf: true, Keys: keys{"a", "b", "c", "d"}, Cells: cells{short(v120), short(v120), short(v120), short(strings.Repeat("w", size))}}
	}
	wide := func(size int) node.Node { return inner(append(names(4, 97), strings.Repeat("z", size))...) }
	for _, c := range []sized{{big(120), 499}, {wide(92), 512}, {wide(93), 513}, {wide(94), 514}, {leaf(names(84, 3)...), 507}, {leaf(names(85, 3)...), 513}, {leaf(names(9, 100)...), 930}, {leaf(names(70000, 3)...), 420003}} {
		b, code := node.Write(c.n)
		if node.Size(c.n) != c.size {
			t.Errorf("Size = %d, want %d", node.Size(c.n), c.size)
		}
		if c.size > 512 && (code != api.ErrLong || len(b) != 0) || c.size <= 512 && (code != api.OK || len(b) != 512) {
			t.Errorf("Write of a node of %d bytes = %v, %d bytes", c.size, code, len(b))
		}
		if n, code := node.Read(b); c.size <= 512 && (code != api.OK || !node.Same(n, c.n)) {
			t.Errorf("Read of a node of %d bytes = %v %v", c.size, n, code)
		}
	}
}

func TestP10_1NoPage(t *testing.T) {
	right := page(1, 0, 2, 1, 0, 0, "a", 2, 0, 0, "bc")
	for _, b := range [][]byte{
		nil, {}, {1, 0, 0}, right[:511], append(right[:512:512], 0), append(right[:512:512], right...), make([]byte, 512), bytes.Repeat([]byte{1}, 512), bytes.Repeat([]byte{255}, 512),
		page(0, 0, 1), page(3, 0, 0), page(255, 0, 0), page(2, 0, 0), page(2, 0, 0, 0, 0, 0, 1),
		// Too many keys for the page, or too few.
		page(1, 0, 2), page(1, 0, 0, 1, 0, 0, "a"), page(1, 1, 0), page(1, 255, 255), page(2, 255, 255, 0, 0, 0, 1),
		page(1, 0, 3, 1, 0, 0, "a", 2, 0, 0, "bc"), page(1, 0, 1, 1, 0, 0, "a", 2, 0, 0, "bc"),
		page(2, 0, 2, 0, 0, 0, 1, 1, "a", 0, 0, 0, 2), page(2, 0, 1, 0, 0, 0, 1, 1, "a", 0, 0, 0, 2, 1, "b", 0, 0, 0, 3),
		// Keys that do not increase or are too long.
		page(1, 0, 2, 1, 0, 0, "b", 1, 0, 0, "a"), page(1, 0, 2, 1, 0, 0, "a", 1, 0, 0, "a"), page(2, 0, 2, 0, 0, 0, 1, 1, "b", 0, 0, 0, 2, 1, "a", 0, 0, 0, 3),
		page(1, 0, 1, 101, 0, 0, strings.Repeat("k", 101)), page(2, 0, 1, 0, 0, 0, 1, 101, strings.Repeat("k", 101), 0, 0, 0, 2), page(1, 0, 1, 255, 0, 0, strings.Repeat("k", 255)),
		// Values that are too long, and pages out of range.
		page(1, 0, 1, 1, 32, 1, "a", 0, 0, 0, 1), page(1, 0, 1, 1, 255, 255, "a", 0, 0, 0, 1),
		page(1, 0, 1, 1, 0, 121, "a"), page(1, 0, 1, 1, 0, 121, "a", 0, 0, 16, 0), page(1, 0, 1, 1, 0, 121, "a", 255, 255, 255, 255), page(1, 0, 1, 1, 0, 121, "a", 128, 0, 0, 1),
		page(2, 0, 1, 0, 0, 0, 0, 1, "a", 0, 0, 0, 2), page(2, 0, 1, 0, 0, 0, 1, 1, "a", 0, 0, 0, 0), page(2, 0, 1, 0, 0, 16, 0, 1, "a", 0, 0, 0, 2), page(2, 0, 1, 1, 0, 0, 1, 1, "a", 0, 0, 0, 2),
		// Something behind the end.
		append(page(1, 0, 0)[:511:511], 1), page(1, 0, 1, 1, 0, 0, "a", 0, 1), page(2, 0, 1, 0, 0, 0, 1, 1, "a", 0, 0, 0, 2, 1),
	} {
		isNone(t, b)
	}
}

// encode is the encoding of a node of any size, by the chapter's words.
func encode(n node.Node) []byte {
	head := append([]byte{2}, number(len(n.Keys), 2)...)
	if n.Leaf {
		head[0] = 1
	} else {
		head = append(head, number(n.Kids[0], 4)...)
	}
	for i, k := range n.Keys {
		head = append(head, byte(len(k)))
		switch {
		case !n.Leaf:
			head = append(append(head, k...), number(n.Kids[i+1], 4)...)
		case n.Cells[i].Len <= 120:
			head = append(append(append(head, number(n.Cells[i].Len, 2)...), k...), n.Cells[i].Data...)
		default:
			head = append(append(append(head, number(n.Cells[i].Len, 2)...), k...), number(n.Cells[i].Page, 4)...)
		}
	}
	return head
}

// number is n in that many bytes.
func number(n, size int) []byte {
	return []byte{byte(n >> 24), byte(n >> 16), byte(n >> 8), byte(n)}[4-size:]
}

// TestP10_1Cut holds that what would be a node if the page did not end there is none.
func TestP10_1Cut(t *testing.T) {
	last := []node.Cell{{}, short("a"), short(strings.Repeat("v", 120)), long(121, 4095), long(8192, 1)}
	for _, size := range []int{1, 2, 3, 5, 100} {
		for _, c := range last {
			for rest := range 100 {
				// What is ahead of the last key ends shortly ahead of the end of the page, or behind it.
				n := leaf(append(names(3, 100), "\x01"+strings.Repeat("k", 95), "\x02"+strings.Repeat("k", rest), "\xff"+strings.Repeat("k", size-1))...)
				n.Cells[5] = c
				w := inner(append(names(3, 100), "\x01"+strings.Repeat("k", 95), "\x02"+strings.Repeat("k", rest), "\xff"+strings.Repeat("k", size-1))...)
				checkCut(t, n)
				checkCut(t, w)
			}
		}
	}
}

// checkCut holds Size, Write and Read against the encoding of a node, which may not fit on a page.
func checkCut(t *testing.T, n node.Node) {
	t.Helper()
	b := encode(n)
	if node.Size(n) != len(b) {
		t.Fatalf("Size(%v) = %d, want %d", n, node.Size(n), len(b))
	}
	if len(b) <= 512 {
		check(t, n, append(b, make([]byte, 512-len(b))...))
		return
	}
	isNone(t, b[:512])
	isNone(t, b)
	if b, code := node.Write(n); len(b) != 0 || code != api.ErrLong {
		t.Errorf("Write(%v) = %v %v", n, b, code)
	}
}

func TestP10_4(t *testing.T) {
	next := chance(1)
	read := 0
	for range 4000 {
		n := next.node()
		checkCut(t, n)
		if node.Size(n) > 512 {
			continue
		}
		read++
		b, code := node.Write(n)
		m, readCode := node.Read(b)
		if code != api.OK || readCode != api.OK || !node.Same(n, m) || !node.Right(m) {
			t.Fatalf("Read(Write(%v)) = %v %v %v", n, m, code, readCode)
		}
		if rest := b[node.Size(n):]; !bytes.Equal(rest, make([]byte, len(rest))) {
			t.Fatalf("behind the end of %v is %v", n, rest)
		}
		// What is the page of a node is that of no other one.
		b[next.below(512)] ^= byte(1 + next.below(255))
		other, code := node.Read(b)
		if code != api.OK {
			isNone(t, b)
			continue
		}
		if again, code := node.Write(other); code != api.OK || !bytes.Equal(again, b) || node.Same(n, other) {
			t.Fatalf("Write(Read(%v)) = %v %v", b, again, code)
		}
	}
	if read < 1000 {
		t.Errorf("only %d nodes had a page", read)
	}
}

// TestP10_4EachByte changes each byte of a page to each other one: either it is the page of another node, or of none.
func TestP10_4EachByte(t *testing.T) {
	for _, n := range []node.Node{
		{Leaf: true, Keys: keys{"", "b", "dd"}, Cells: cells{short("xy"), long(300, 258), {}}},
		{Keys: keys{"b", "dd"}, Kids: kids{258, 3, 4}},
	} {
		right, _ := node.Write(n)
		for i := range 512 {
			for c := range 256 {
				b := slices.Clone(right)
				b[i] = byte(c)
				m, code := node.Read(b)
				if code != api.OK {
					isNone(t, b)
					continue
				}
				if again, code := node.Write(m); code != api.OK || !bytes.Equal(again, b) || node.Same(m, n) != bytes.Equal(b, right) {
					t.Fatalf("Write(Read(%v)) = %v %v", b, again, code)
				}
			}
		}
	}
}

// TestP10_4Memory holds that neither a page nor a node shares memory with what it was made of.
func TestP10_4Memory(t *testing.T) {
	n := node.Node{Leaf: true, Keys: keys{"a", "b"}, Cells: cells{short("x"), short("y")}}
	b, _ := node.Write(n)
	m, _ := node.Read(b)
	want, _ := node.Read(slices.Clone(b))
	clear(b)
	n.Keys[0], n.Cells[0] = "z", short("z")
	if !node.Same(m, want) || m.Keys[0] != "a" || m.Cells[0].Data != "x" {
		t.Errorf("the node is %v", m)
	}
	if again, _ := node.Write(m); bytes.Equal(again, b) {
		t.Error("the page is that of the node that was changed")
	}
}
