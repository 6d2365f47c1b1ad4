package plan_test

import (
	"slices"
	"strings"
	"testing"

	"hindsight/api"
	"hindsight/parse"
	"hindsight/plan"
	"hindsight/schema"
	"hindsight/typing"
)

// Short names for what the tests make by the dozen.
type (
	value  = api.Value
	values = []api.Value
	node   = typing.Node
	nodes  = []typing.Node
	table  = plan.Table
	tables = []plan.Table
	step   = plan.Step
	steps  = []plan.Step
)

func number(n int64) value { return value{Kind: 1, Int: n} }

func lit(n int64) node                          { return node{Kind: 1, Value: number(n), Type: 1} }
func col(slot int) node                         { return node{Kind: 2, Slot: slot, Type: 1} }
func of(kind int, op string, args ...node) node { return node{Kind: kind, Op: op, Type: 1, Args: args} }
func is(a, b node) node                         { return of(4, "=", a, b) }
func and(a, b node) node                        { return of(4, "and", a, b) }

// scope has two tables of the columns a, b, c, d and e, f, g: slots 0 to 3 and 4 to 6.
func scope() []typing.Source {
	l := []typing.Source{{As: "t"}, {As: "u"}}
	for i, name := range strings.Fields("a b c d e f g") {
		l[i/4].Table.Columns = append(l[i/4].Table.Columns, schema.Column{Name: name, Kind: api.Int})
	}
	return l
}

// bound is the node of a text in that scope.
func bound(t *testing.T, s string) node {
	t.Helper()
	e, f := parse.ReadExpr(s)
	n, code := typing.Bind(e, scope(), true)
	if f != (api.Fault{}) || code != api.OK {
		t.Fatalf("%s: %v %v", s, f, code)
	}
	return n
}

// bounds are the nodes of texts between semicolons.
func bounds(t *testing.T, s string) nodes {
	t.Helper()
	var l nodes
	for part := range strings.SplitSeq(s, ";") {
		if part != "" {
			l = append(l, bound(t, part))
		}
	}
	return l
}

// equal reports whether two nodes are equal.
func equal(a, b node) bool {
	return a.Kind == b.Kind && a.Op == b.Op && a.Value == b.Value && a.Slot == b.Slot && a.Type == b.Type && equalAll(a.Args, b.Args)
}

// equalAll reports whether two lists are equal.
func equalAll(a, b nodes) bool { return slices.EqualFunc(a, b, equal) }

// equalSteps reports whether two lists are equal.
func equalSteps(a, b steps) bool {
	return slices.EqualFunc(a, b, func(x, y step) bool {
		return x.Kind == y.Kind && x.Column == y.Column && equalAll(x.Nodes, y.Nodes)
	})
}

// copied is n in memory of its own.
func copied(n node) node {
	n.Args = copiedAll(n.Args)
	return n
}

// copiedAll is l in memory of its own.
func copiedAll(l nodes) nodes {
	var own nodes
	for _, x := range l {
		own = append(own, copied(x))
	}
	return own
}

// spoil overwrites all nodes in a list.
func spoil(l nodes) {
	for i := range l {
		spoil(l[i].Args)
		l[i] = node{Kind: 77, Op: "spoilt"}
	}
}

// chance are numbers that follow from each other.
type chance uint64

// below is the next number, from 0 to n - 1.
func (c *chance) below(n int) int {
	*c = *c*6364136223846793005 + 1442695040888963407
	return int(uint64(*c)>>33) % n
}

// op is the next word of a list.
func (c *chance) op(words string) string {
	l := strings.Fields(words)
	return l[c.below(len(l))]
}

// node is a next node, most often safe, in the slots from -1 to 7.
func (c *chance) node(depth int) node {
	choice := c.below(12)
	if depth == 1 || choice < 2 {
		if choice%2 == 0 {
			return lit(int64(c.below(3)))
		}
		return col(c.below(9) - 1)
	}
	one := func() node { return c.node(depth - 1) }
	switch choice {
	case 2:
		return of(5, []string{"is null", "is not null"}[c.below(2)], one())
	case 3:
		return of(3, "not", one())
	case 4:
		if c.below(9) > 0 {
			return of(4, "or", one(), one())
		}
		return []node{of(3, "-", one()), of(4, "+", one(), one()), of(6, "count"), of(7, "length", one()), {}, of(4, "=", one()), of(5, "=", one(), one()), of(4, "and", one(), one(), one()), of(4, "not", one(), one())}[c.below(9)]
	case 5:
		return of(4, c.op("<> < <= > >="), one(), one())
	case 6, 7:
		return of(4, "and", one(), one())
	case 8:
		return is(one(), one())
	case 9, 10:
		return is(col(c.below(8)), one())
	}
	return is(one(), col(c.below(8)))
}

// condition is a next node of so many conjuncts or more, at least 1, of at most that depth.
func (c *chance) condition(count, depth int) node {
	if count == 1 {
		return c.node(depth)
	}
	left := 1 + c.below(count-1)
	return and(c.condition(left, depth), c.condition(count-left, depth))
}
