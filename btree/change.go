package btree

import (
	"hindsight/api"
	"hindsight/node"
)

// small is the size below which a node is joined with a neighbour if both fit on a page; a node without keys is below it, too.
const small = api.Page / 4

// edit is a leaf as it is changed, and whether it is.
type edit func(leaf node.Node) (node.Node, bool, api.Errno)

// change edits the leaf of a key, and the nodes above it as far as they change with it.
func (t *Tree) change(key string, e edit) api.Errno {
	n, changed, err := t.alter(t.root, deepest, key, e)
	if err != api.OK || !changed {
		return err
	}
	return t.plant(n)
}

// alter edits the leaf of a key below a page, with at most so many nodes on the path; the node of the page itself is returned as it is changed, and whether it is, but not stored.
func (t *Tree) alter(page, deep int, key string, e edit) (node.Node, bool, api.Errno) {
	n, err := t.Node(page)
	switch {
	case err != api.OK:
		return node.Node{}, false, err
	case n.Leaf:
		return e(n)
	case deep <= 1:
		return node.Node{}, false, api.ErrCorrupt
	}
	i := node.Way(n, key)
	kid, changed, err := t.alter(n.Kids[i], deep-1, key, e)
	if err != api.OK || !changed {
		return n, false, err
	}
	return t.place(n, i, kid)
}

// plant stores the root as it is changed; its page stays the same, whatever becomes of the node.
func (t *Tree) plant(n node.Node) api.Errno {
	switch {
	case node.Size(n) > api.Page:
		return t.raise(n)
	case !n.Leaf && len(n.Keys) == 0:
		return t.lower(n.Kids[0])
	}
	return t.store(t.root, n)
}

// raise stores a root that is too large: its halves become the kids of a new one.
func (t *Tree) raise(n node.Node) api.Errno {
	left, key, right := node.Halve(n)
	root := node.Node{Keys: []string{key}}
	for _, half := range []node.Node{left, right} {
		page, err := t.pager.Alloc()
		if err != api.OK {
			return err
		}
		if err := t.store(page, half); err != api.OK {
			return err
		}
		root.Kids = append(root.Kids, page)
	}
	return t.store(t.root, root)
}

// lower makes the only kid of the root the root.
func (t *Tree) lower(kid int) api.Errno {
	n, err := t.Node(kid)
	if err != api.OK {
		return err
	}
	if err := t.pager.Free(kid); err != api.OK {
		return err
	}
	return t.store(t.root, n)
}

// place stores kid i of n as it is changed: on its page, on two if it is too large, or with a neighbour if it is small; it returns n as it is changed by that, and whether it is.
func (t *Tree) place(n node.Node, i int, kid node.Node) (node.Node, bool, api.Errno) {
	switch size := node.Size(kid); {
	case size > api.Page:
		return t.split(n, i, kid)
	case size < small:
		return t.join(n, i, kid)
	}
	return n, false, t.store(n.Kids[i], kid)
}

// split stores kid i of n, which is too large, on two pages.
func (t *Tree) split(n node.Node, i int, kid node.Node) (node.Node, bool, api.Errno) {
	page, err := t.pager.Alloc()
	if err != api.OK {
		return n, false, err
	}
	left, key, right := node.Halve(kid)
	return withKid(n, i, key, page), true, t.storeBoth(n.Kids[i], left, page, right)
}

// join stores kid i of n, which is small, together with a neighbour if both fit on a page; if they do not, it takes keys of the neighbour unless it has some.
func (t *Tree) join(n node.Node, i int, kid node.Node) (node.Node, bool, api.Errno) {
	key := max(i-1, 0) // between the kid and its neighbour, the next one of the first and the one ahead of any other
	whole, err := t.union(n, key, i, kid)
	if err != api.OK {
		return n, false, err
	}
	switch {
	case node.Size(whole) <= api.Page:
		if err := t.pager.Free(n.Kids[key+1]); err != api.OK {
			return n, false, err
		}
		return withoutKid(n, key), true, t.store(n.Kids[key], whole)
	case len(kid.Keys) > 0:
		return n, false, t.store(n.Kids[i], kid)
	}
	left, middle, right := node.Halve(whole)
	return withKey(n, key, middle), true, t.storeBoth(n.Kids[key], left, n.Kids[key+1], right)
}

// union is the node of the keys on both sides of a key of n, of which kid i is one side as it is changed.
func (t *Tree) union(n node.Node, key, i int, kid node.Node) (node.Node, api.Errno) {
	left, right := kid, kid
	var err api.Errno
	if i == key {
		right, err = t.Node(n.Kids[key+1])
	} else {
		left, err = t.Node(n.Kids[key])
	}
	if err != api.OK {
		return node.Node{}, err
	}
	whole := joined(left, n.Keys[key], right)
	if !node.Right(whole) {
		return node.Node{}, api.ErrCorrupt
	}
	return whole, api.OK
}

// store makes n the node of a page; in a damaged tree, it may be none.
func (t *Tree) store(page int, n node.Node) api.Errno {
	b, err := node.Write(n)
	if err != api.OK {
		return api.ErrCorrupt
	}
	return t.pager.Put(page, b)
}

// storeBoth stores two nodes.
func (t *Tree) storeBoth(first int, a node.Node, second int, b node.Node) api.Errno {
	if err := t.store(first, a); err != api.OK {
		return err
	}
	return t.store(second, b)
}
