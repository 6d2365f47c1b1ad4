package eval_test

import (
	"math"
	"slices"
	"strings"
	"testing"

	"hindsight/api"
	"hindsight/eval"
	"hindsight/parse"
	"hindsight/schema"
	"hindsight/typing"
)

// Short names for what the tests make by the dozen.
type (
	value  = api.Value
	values = []api.Value
	node   = typing.Node
	nodes  = []typing.Node
)

func number(n int64) value { return value{Kind: 1, Int: n} }
func text(s string) value  { return value{Kind: 2, Text: s} }
func blob(s string) value  { return value{Kind: 3, Text: s} }

func lit(v value) node { return node{Kind: 1, Value: v, Type: v.Kind} }
func col(slot int) node {
	return node{Kind: 2, Slot: slot}
}
func of(kind int, op string, args ...node) node { return node{Kind: kind, Op: op, Args: args} }

// lits are the literals of l.
func lits(l ...value) nodes {
	var args nodes
	for _, v := range l {
		args = append(args, lit(v))
	}
	return args
}

// Nodes with an error of their own.
func zero() node   { return of(4, "/", lit(number(1)), lit(number(0))) }
func over() node   { return of(3, "-", lit(number(math.MinInt64))) }
func typed() node  { return of(3, "-", lit(text("a"))) }
func empty() node  { return of(7, "overlaps", lits(number(1), number(1), number(1), number(2))...) }
func beyond() node { return col(1000) }

// wrong are nodes that are not valid, of themselves.
func wrong() nodes {
	one := lit(number(1))
	return nodes{
		{}, {Kind: 8}, {Kind: -1}, {Kind: math.MinInt}, {Kind: math.MaxInt}, {Kind: 256 + 1, Value: number(1)}, {Kind: 256 + 2}, {Op: "-", Args: nodes{one}},
		of(6, "count"), of(6, "count", one), of(6, "sum", one), of(6, "min", one), of(6, "max", one), of(6, "length", one), of(6, ""),
		of(3, "-"), of(3, "-", one, one), of(3, "+", one), of(3, "", one), of(3, "NOT", one), of(3, "is null", one), of(3, "length", one),
		of(4, "+"), of(4, "+", one), of(4, "+", one, one, one), of(4, "not", one), of(4, "", one, one), of(4, "==", one, one), of(4, "AND", one, one), of(4, "is null", one, one), of(4, "overlaps", one, one, one, one),
		of(5, "is null"), of(5, "is null", one, one), of(5, "is", one), of(5, "", one), of(5, "not", one), of(5, "is  null", one), of(5, "=", one, one),
		of(7, "length"), of(7, "length", one, one), of(7, "length", one, one, one, one), of(7, "overlaps", one, one, one), of(7, "overlaps", one), of(7, "contains", one, one, one, one, one), of(7, "contains"), of(7, "", one), of(7, "", one, one, one, one), of(7, "count", one), of(7, "Length", one), of(7, "-", one),
		{Kind: 1, Value: value{Int: 1}},
	}
}

// invalid are values that are not valid.
func invalid() values {
	return values{{Int: 1}, {Int: -1}, {Text: "a"}, {Kind: 1, Text: "a"}, {Kind: 1, Int: 3, Text: "3"}, {Kind: 2, Int: 1}, {Kind: 2, Int: -1, Text: "a"}, {Kind: 3, Int: 1, Text: "a"}, {Kind: 4}, {Kind: 255, Text: "a"}, {Kind: 4, Int: 1}}
}

// ordered are valid values in increasing order.
func ordered() values {
	return values{
		{},
		number(math.MinInt64), number(math.MinInt64 + 1), number(-3037000500), number(-7), number(-2), number(-1), number(0), number(1), number(2), number(3), number(10), number(3037000500), number(math.MaxInt64 - 1), number(math.MaxInt64),
		text(""), text("%"), text("A"), text("_"), text("a"), text("a\x00"), text("ab"), text("b"), text("\u00e4"), text("\xff"),
		blob(""), blob("%"), blob("a"), blob("ab"), blob("\u00e4"), blob("\xff"),
	}
}

// few are some of them, for tests in which many stand beside each other.
func few() values {
	return values{{}, number(math.MinInt64), number(-1), number(0), number(1), number(2), number(math.MaxInt64), text(""), text("a"), text("\xff"), blob(""), blob("a")}
}

// holds holds the result of Value.
func holds(t *testing.T, n node, row values, want value, code api.Errno) {
	t.Helper()
	if v, err := eval.Value(n, row); v != want || err != code {
		t.Errorf("Value(%+v) of %.200v = %.100v %v, want %.100v %v", n, row, v, err, want, code)
	}
}

// scope has the columns i and j of integers, s and t of texts, b and c of blobs.
func scope() []typing.Source {
	table := schema.Table{Name: "t", Key: []int{0}, From: -1, To: -1}
	for i, name := range []string{"i", "j", "s", "t", "b", "c"} {
		table.Columns = append(table.Columns, schema.Column{Name: name, Kind: uint8(1 + i/2), NotNull: i == 0})
	}
	return []typing.Source{{As: "t", Table: table}}
}

// bound is the node of a text in that scope.
func bound(t *testing.T, s string) node {
	t.Helper()
	e, f := parse.ReadExpr(s)
	n, code := typing.Bind(e, scope(), true)
	if f != (api.Fault{}) || code != api.OK {
		t.Fatalf("%s: %v %v", s, f, code)
	}
	return n
}

// begun is an aggregate without rows.
func begun(t *testing.T, n node) *eval.Sum {
	t.Helper()
	s, code := eval.Begin(n)
	if s == nil || code != api.OK {
		t.Fatalf("Begin(%v) = %v %v", n, s, code)
	}
	return s
}

// nested is a node of that many levels, at least 1, with a node at its end.
func nested(levels int, end node) node {
	for i := range levels - 1 {
		switch i % 3 {
		case 0:
			end = of(3, "-", end)
		case 1:
			end = of(4, "+", lit(number(1)), end)
		case 2:
			end = of(4, "*", end, lit(number(1)))
		}
	}
	return end
}

// equal reports whether two nodes of no great depth are equal.
func equal(a, b node) bool {
	return a.Kind == b.Kind && a.Op == b.Op && a.Value == b.Value && a.Slot == b.Slot && a.Type == b.Type && slices.EqualFunc(a.Args, b.Args, equal)
}

// copied is n in memory of its own.
func copied(n node) node {
	var args nodes
	for _, x := range n.Args {
		args = append(args, copied(x))
	}
	n.Args = args
	return n
}

// chance are numbers that follow from each other.
type chance uint64

// below is the next number, from 0 to n - 1.
func (c *chance) below(n int) int {
	*c = *c*6364136223846793005 + 1442695040888963407
	return int(uint64(*c)>>33) % n
}

// value is the next one of l.
func (c *chance) value(l values) value { return l[c.below(len(l))] }

// op is the next word of a list.
func (c *chance) op(words string) string {
	l := strings.Fields(words)
	return l[c.below(len(l))]
}
