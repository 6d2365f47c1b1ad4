package plan

import (
	"slices"

	"hindsight/syntax"
	"hindsight/typing"
)

// Safe reports whether n is safe: if it is bound, it never evaluates to an error.
func Safe(n typing.Node) bool {
	return isSafe(n) && !slices.ContainsFunc(n.Args, func(x typing.Node) bool { return !Safe(x) })
}

// isSafe reports whether n is safe if its arguments are.
func isSafe(n typing.Node) bool {
	switch n.Kind {
	case syntax.Lit, syntax.Col:
		return true
	case syntax.Un:
		return n.Op == "not" && len(n.Args) == 1
	case syntax.Null:
		return (n.Op == "is null" || n.Op == "is not null") && len(n.Args) == 1
	case syntax.Bin:
		return isSafeBinary(n.Op) && len(n.Args) == 2
	}
	return false
}

func isSafeBinary(op string) bool {
	switch op {
	case "or", "and", "=", "<>", "<", "<=", ">", ">=":
		return true
	}
	return false
}

// Parts is the conjuncts of n.
func Parts(n typing.Node) []typing.Node {
	var parts []typing.Node
	eachPart(n, func(part typing.Node) { parts = append(parts, clone(part)) })
	return parts
}

// eachPart calls do for each conjunct of n, in order.
func eachPart(n typing.Node, do func(part typing.Node)) {
	if !isBinary(n, "and") {
		do(n)
		return
	}
	for _, x := range n.Args {
		eachPart(x, do)
	}
}

// isBinary reports whether n is that operation of two arguments.
func isBinary(n typing.Node, op string) bool {
	return n.Kind == syntax.Bin && n.Op == op && len(n.Args) == 2
}

// Equal is what the slot, of a table with that first slot, is equal to by the first equation for it, and whether there is one.
func Equal(parts []typing.Node, slot, first int) (typing.Node, bool) {
	var result typing.Node
	found := false
search:
	for _, part := range parts {
		if !isBinary(part, "=") {
			continue
		}
		for i, x := range part.Args {
			other := part.Args[1-i]
			if x.Kind == syntax.Col && x.Slot == slot && isBelow(other, first) {
				result, found = clone(other), true
				break search
			}
		}
	}
	return result, found
}

// isBelow reports whether n uses only slots below first.
func isBelow(n typing.Node, first int) bool {
	return !slices.ContainsFunc(typing.Used(n), func(slot int) bool { return slot >= first })
}

// clone is n in memory of its own.
func clone(n typing.Node) typing.Node {
	n.Args = slices.Clone(n.Args)
	for i, x := range n.Args {
		n.Args[i] = clone(x)
	}
	return n
}
