package node

import (
	"slices"

	"hindsight/api"
)

// Halve is both halves of n and the key that separates them, for a node with enough keys.
func Halve(n Node) (Node, string, Node) {
	// The separating key of a leaf stays in the second half, that of another node leaves it.
	moved := 0
	if !n.Leaf {
		moved = 1
	}
	most := len(n.Keys) - 1 - moved
	if !Right(n) || most < 1 {
		return Node{}, "", Node{}
	}
	i := share(n, most)
	return part(n, 0, i), n.Keys[i], part(n, i+moved, len(n.Keys))
}

// share is the number of keys of the first half, from 1 to most.
func share(n Node, most int) int {
	whole := sizeOf(n)
	keys, size := 1, headSize(n)+pairSize(n, 0)
	for keys < most && 2*size < whole {
		size += pairSize(n, keys)
		keys++
	}
	if size > api.Page && keys > 1 {
		keys--
	}
	return keys
}

// part is the node with the keys of n from one index to another, in new memory.
func part(n Node, from, to int) Node {
	keys := slices.Clone(n.Keys[from:to])
	if n.Leaf {
		return Node{Leaf: true, Keys: keys, Cells: slices.Clone(n.Cells[from:to])}
	}
	return Node{Keys: keys, Kids: slices.Clone(n.Kids[from : to+1])}
}
