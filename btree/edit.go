package btree

import (
	"slices"

	"hindsight/node"
)

// withPair is the leaf n with one more pair, at index i.
func withPair(n node.Node, i int, key string, c node.Cell) node.Node {
	return node.Node{Leaf: true, Keys: inserted(n.Keys, i, key), Cells: inserted(n.Cells, i, c)}
}

// withoutPair is the leaf n without the pair at index i.
func withoutPair(n node.Node, i int) node.Node {
	return node.Node{Leaf: true, Keys: without(n.Keys, i), Cells: without(n.Cells, i)}
}

// withKid is n with one more key, at index i, and the kid behind it.
func withKid(n node.Node, i int, key string, kid int) node.Node {
	return node.Node{Keys: inserted(n.Keys, i, key), Kids: inserted(n.Kids, i+1, kid)}
}

// withoutKid is n without the key at index i and the kid behind it.
func withoutKid(n node.Node, i int) node.Node {
	return node.Node{Keys: without(n.Keys, i), Kids: without(n.Kids, i+1)}
}

// withKey is n with another key at index i.
func withKey(n node.Node, i int, key string) node.Node {
	return node.Node{Keys: inserted(without(n.Keys, i), i, key), Kids: n.Kids}
}

// joined is the node with the keys of two neighbours that a key separates; it is not valid if one of them is a leaf and the other is not.
func joined(left node.Node, key string, right node.Node) node.Node {
	keys := left.Keys
	if !left.Leaf {
		keys = inserted(keys, len(keys), key)
	}
	return node.Node{
		Leaf:  left.Leaf,
		Keys:  slices.Concat(keys, right.Keys),
		Cells: slices.Concat(left.Cells, right.Cells),
		Kids:  slices.Concat(left.Kids, right.Kids),
	}
}

// inserted is l with x at index i; l stays as it is.
func inserted[T any](l []T, i int, x T) []T { return append(append(l[:i:i], x), l[i:]...) }

// without is l without what is at index i; l stays as it is.
func without[T any](l []T, i int) []T { return append(l[:i:i], l[i+1:]...) }
