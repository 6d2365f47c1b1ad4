package typing

// visit calls do for n and for all nodes in it, in order.
func visit(n Node, do func(x Node)) {
	do(n)
	for _, x := range n.Args {
		visit(x, do)
	}
}

// replace is n, in memory of its own, with another node in place of each one for which by has one.
func replace(n Node, by func(x Node) (Node, bool)) Node {
	if other, some := by(n); some {
		return other
	}
	var args []Node
	for _, x := range n.Args {
		args = append(args, replace(x, by))
	}
	n.Args = args
	return n
}

// clone is n in memory of its own.
func clone(n Node) Node {
	return replace(n, func(Node) (Node, bool) { return Node{}, false })
}
