package typing

import (
	"slices"

	"hindsight/api"
	"hindsight/syntax"
)

// match reports whether the types of the arguments of n match.
func match(n Node) bool {
	switch n.Op {
	case "-", "not", "or", "and", "+", "*", "/", "%", "sum", "overlaps", "contains":
		return have(n.Args, api.Int)
	case "like":
		return have(n.Args, api.Text)
	case "||", "length":
		return have(n.Args, api.Text) || have(n.Args, api.Blob)
	case "=", "<>", "<", "<=", ">", ">=":
		return have(n.Args, n.Args[0].Type) || have(n.Args, n.Args[1].Type)
	}
	return true
}

// have reports whether each of l has this type or an unknown one.
func have(l []Node, kind uint8) bool {
	return !slices.ContainsFunc(l, func(x Node) bool { return x.Type != kind && x.Type != unknown })
}

// typeOf is the type of n, which is no column, and whose arguments match.
func typeOf(n Node) uint8 {
	switch n.Op {
	case "min", "max", "||":
		return firstType(n.Args)
	}
	if n.Kind == syntax.Lit {
		return n.Value.Kind
	}
	return api.Int
}

// firstType is the first type of l that is known.
func firstType(l []Node) uint8 {
	for _, x := range l {
		if x.Type != unknown {
			return x.Type
		}
	}
	return unknown
}
