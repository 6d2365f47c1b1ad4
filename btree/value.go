package btree

import (
	"hindsight/api"
	"hindsight/fixed"
	"hindsight/node"
)

// nextSize is the size of the number with which an overflow page begins.
const nextSize = api.Page - node.Spill

// Value is the value of a cell.
func (t *Tree) Value(c node.Cell) ([]byte, api.Errno) {
	switch {
	case !t.made():
		return nil, api.ErrNil
	case !isCell(c):
		return nil, api.ErrForm
	}
	v := []byte(c.Data)
	err := t.spilled(c, func(_ int, part []byte) api.Errno {
		v = append(v, part...)
		return api.OK
	})
	if err != api.OK {
		return nil, err
	}
	return v, api.OK
}

// isCell reports whether c is a valid cell: one that a leaf may have.
func isCell(c node.Cell) bool {
	return node.Right(node.Node{Leaf: true, Keys: []string{""}, Cells: []node.Cell{c}})
}

// spill is the cell of a value, of which it stores in overflow pages what does not fit in the cell.
func (t *Tree) spill(v []byte) (node.Cell, api.Errno) {
	c := node.Cell{Len: len(v)}
	if c.Len <= node.Inline {
		c.Data = string(v)
		return c, api.OK
	}
	// Each page has the number of the next one, so that the last one is made first.
	for end := len(v); end > 0; {
		from := (end - 1) / node.Spill * node.Spill
		page, err := t.pager.Alloc()
		if err != api.OK {
			return node.Cell{}, err
		}
		b := make([]byte, api.Page)
		fixed.Put(b[:nextSize], c.Page)
		copy(b[nextSize:], v[from:end:end])
		if err := t.pager.Put(page, b); err != api.OK {
			return node.Cell{}, err
		}
		c.Page, end = page, from
	}
	return c, api.OK
}

// spilled calls visit with each overflow page of a valid cell, and with what that has of the value.
func (t *Tree) spilled(c node.Cell, visit func(page int, part []byte) api.Errno) api.Errno {
	if c.Len <= node.Inline {
		return api.OK
	}
	page, left := c.Page, c.Len
pages:
	for {
		b, err := t.pager.Get(page)
		if err != api.OK {
			return err
		}
		end := nextSize + min(left, node.Spill)
		if err := visit(page, b[nextSize:end:end]); err != api.OK {
			return err
		}
		page = fixed.Get(b[:nextSize])
		left -= end - nextSize
		switch {
		case left == 0:
			break pages
		case page == 0:
			return api.ErrCorrupt
		}
	}
	return api.OK
}

// release frees the overflow pages of a cell.
func (t *Tree) release(c node.Cell) api.Errno {
	return t.spilled(c, func(page int, _ []byte) api.Errno { return t.pager.Free(page) })
}
