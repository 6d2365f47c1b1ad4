package node

import (
	"hindsight/api"
	"hindsight/fixed"
)

// The first byte of a page.
const (
	leafKind  = 1
	innerKind = 2
)

// The sizes of the parts of a page.
const (
	kindSize  = 1
	countSize = 2
	keySize   = 1 // of the length of a key
	lenSize   = 2
	pageSize  = 4 // of the number of a page
)

// Size is the length of the encoding of n, 0 if n is not valid.
func Size(n Node) int {
	if !Right(n) {
		return 0
	}
	return sizeOf(n)
}

// Write is the page of n.
func Write(n Node) ([]byte, api.Errno) {
	if !Right(n) {
		return nil, api.ErrForm
	}
	if sizeOf(n) > api.Page {
		return nil, api.ErrLong
	}
	w := &writer{b: make([]byte, api.Page)}
	if n.Leaf {
		w.leaf(n)
	} else {
		w.inner(n)
	}
	return w.b, api.OK
}

// Read is the node whose page is b.
func Read(b []byte) (Node, api.Errno) {
	if len(b) != api.Page {
		return Node{}, api.ErrForm
	}
	r := &reader{s: string(b), ok: true}
	var n Node
	switch r.number(kindSize) {
	case leafKind:
		n = r.leaf()
	case innerKind:
		n = r.inner()
	default:
		return Node{}, api.ErrForm
	}
	if !r.ok || !r.endsInZeros() || !Right(n) {
		return Node{}, api.ErrForm
	}
	return n, api.OK
}

// sizeOf is the size of a valid node.
func sizeOf(n Node) int {
	size := headSize(n)
	for i := range n.Keys {
		size += pairSize(n, i)
	}
	return size
}

// headSize is the size of what is ahead of the first key.
func headSize(n Node) int {
	if n.Leaf {
		return kindSize + countSize
	}
	return kindSize + countSize + pageSize
}

// pairSize is the size of key i and of its cell or of the kid behind it.
func pairSize(n Node, i int) int {
	size := keySize + len(n.Keys[i])
	switch {
	case !n.Leaf:
		return size + pageSize
	case n.Cells[i].Len <= Inline:
		return size + lenSize + len(n.Cells[i].Data)
	}
	return size + lenSize + pageSize
}

// writer writes a page; at is the end of what is written.
type writer struct {
	b  []byte
	at int
}

// number writes n to that many bytes.
func (w *writer) number(n, size int) {
	fixed.Put(w.b[w.at:w.at+size], n)
	w.at += size
}

// text writes the bytes of s.
func (w *writer) text(s string) { w.at += copy(w.b[w.at:], s) }

// leaf writes a leaf.
func (w *writer) leaf(n Node) {
	w.number(leafKind, kindSize)
	w.number(len(n.Keys), countSize)
	for i, k := range n.Keys {
		c := n.Cells[i]
		w.number(len(k), keySize)
		w.number(c.Len, lenSize)
		w.text(k)
		if c.Len <= Inline {
			w.text(c.Data)
		} else {
			w.number(c.Page, pageSize)
		}
	}
}

// inner writes a node that is not a leaf.
func (w *writer) inner(n Node) {
	w.number(innerKind, kindSize)
	w.number(len(n.Keys), countSize)
	w.number(n.Kids[0], pageSize)
	for i, k := range n.Keys {
		w.number(len(k), keySize)
		w.text(k)
		w.number(n.Kids[i+1], pageSize)
	}
}

// reader reads a page; at is the end of what is read, and ok false once something was missing.
type reader struct {
	s  string
	at int
	ok bool
}

// text reads a string of that many bytes.
func (r *reader) text(size int) string {
	if size > len(r.s)-r.at {
		r.ok = false
		return ""
	}
	from := r.at
	r.at += size
	return r.s[from:r.at]
}

// number reads a number of that many bytes.
func (r *reader) number(size int) int { return fixed.Get(r.text(size)) }

// leaf reads what follows the kind of a leaf.
func (r *reader) leaf() Node {
	n := Node{Leaf: true}
	for count := r.number(countSize); len(n.Keys) < count && r.ok; {
		size := r.number(keySize)
		c := Cell{Len: r.number(lenSize)}
		n.Keys = append(n.Keys, r.text(size))
		if c.Len <= Inline {
			c.Data = r.text(c.Len)
		} else {
			c.Page = r.number(pageSize)
		}
		n.Cells = append(n.Cells, c)
	}
	return n
}

// inner reads what follows the kind of another node.
func (r *reader) inner() Node {
	count := r.number(countSize)
	n := Node{Kids: []int{r.number(pageSize)}}
	for len(n.Keys) < count && r.ok {
		n.Keys = append(n.Keys, r.text(r.number(keySize)))
		n.Kids = append(n.Kids, r.number(pageSize))
	}
	return n
}

// endsInZeros reports whether the rest consists of zeros.
func (r *reader) endsInZeros() bool {
	for _, c := range []byte(r.s[r.at:]) {
		if c != 0 {
			return false
		}
	}
	return true
}
