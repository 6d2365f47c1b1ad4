package cursor

import (
	"hindsight/api"
	"hindsight/node"
)

// The steps from an index to the next one to be visited.
const (
	forward  = 1
	backward = -1
)

// mostNodes is how many nodes can be entered in one direction: in a tree, each is entered once.
const mostNodes = api.MaxPages

// position is a node and the index of one of its kids; in a leaf, of one of its pairs.
type position struct {
	node node.Node
	at   int
}

// choice is the index in a node from which the next step leads to the kid or the pair to be visited first.
type choice func(n node.Node) int

// ahead is the choice of what goes forward.
func ahead(node.Node) int { return -1 }

// behind is the choice of what goes backward.
func behind(n node.Node) int { return width(n) }

// width is the number of kids of a node; of a leaf, the number of its pairs.
func width(n node.Node) int {
	if n.Leaf {
		return len(n.Keys)
	}
	return len(n.Kids)
}

// last is the position at the end of the path.
func (c *Cursor) last() *position { return &c.path[len(c.path)-1] }

// start positions the cursor at the first pair to be visited from the root on.
func (c *Cursor) start(step int, choose choice) api.Errno {
	if !c.made() {
		return api.ErrNil
	}
	c.path, c.left = nil, mostNodes
	if err := c.enter(c.tree.Root(), choose); err != api.OK {
		return err
	}
	return c.move(step, choose)
}

// goOn moves the cursor from its pair to the next one to be visited.
func (c *Cursor) goOn(step int, choose choice) api.Errno {
	switch {
	case !c.made():
		return api.ErrNil
	case !c.At():
		return api.ErrNone
	}
	c.left = mostNodes
	return c.move(step, choose)
}

// move makes steps until the path ends at a pair, or is empty.
func (c *Cursor) move(step int, choose choice) api.Errno {
	for len(c.path) > 0 {
		p := c.last()
		p.at += step
		switch {
		case p.at < 0 || p.at >= width(p.node):
			c.path = c.path[:len(c.path)-1]
		case p.node.Leaf:
			return api.OK
		default:
			if err := c.enter(p.node.Kids[p.at], choose); err != api.OK {
				return err
			}
		}
	}
	return api.OK
}

// enter adds the node of a page to the path; on an error, the cursor is at no pair.
func (c *Cursor) enter(page int, choose choice) api.Errno {
	n, err := c.tree.Node(page)
	if err == api.OK && c.left == 0 {
		// A damaged tree has its nodes in a circle, or one of them more than once.
		err = api.ErrCorrupt
	}
	if err != api.OK {
		c.path = nil
		return err
	}
	c.left--
	c.path = append(c.path, position{n, choose(n)})
	return api.OK
}
