package typing_test

import (
	"slices"
	"strings"
	"testing"

	"hindsight/api"
	"hindsight/parse"
	"hindsight/schema"
	"hindsight/syntax"
	"hindsight/typing"
)

// Short names for what the tests make by the dozen.
type (
	expr   = syntax.Expr
	exprs  = []syntax.Expr
	node   = typing.Node
	nodes  = []typing.Node
	source = typing.Source
	scope  = []typing.Source
)

func column(name string) expr            { return expr{Kind: 2, Name: name} }
func columnOf(table, name string) expr   { return expr{Kind: 2, Table: table, Name: name} }
func un(op string, a expr) expr          { return expr{Kind: 3, Op: op, Args: exprs{a}} }
func bin(a expr, op string, b expr) expr { return expr{Kind: 4, Op: op, Args: exprs{a, b}} }
func sum(a expr) expr                    { return expr{Kind: 6, Op: "sum", Args: exprs{a}} }
func number(n int64) expr                { return expr{Kind: 1, Value: api.Value{Kind: 1, Int: n}} }

func slot(i int, kind uint8) node { return node{Kind: 2, Slot: i, Type: kind} }

// from is a source with columns by these letters: i for an integer, t for a text, b for a blob, of the names n, or a, b, c.
func from(as, kinds string, versioned bool, names ...string) source {
	t := schema.Table{Name: "t", Key: []int{0}, From: -1, To: -1, Versioned: versioned}
	for i, k := range kinds {
		name := string(rune('a' + i))
		if i < len(names) {
			name = names[i]
		}
		t.Columns = append(t.Columns, schema.Column{Name: name, Kind: uint8(1 + strings.IndexRune("itb", k)), NotNull: i == 0})
	}
	return source{As: as, Table: t}
}

// letters has one column of each kind: i, t, b.
func letters() scope { return scope{from("u", "itb", false, "i", "t", "b")} }

// parsed is the expression of a text.
func parsed(t *testing.T, s string) expr {
	t.Helper()
	e, f := parse.ReadExpr(s)
	if f != (api.Fault{}) {
		t.Fatalf("ReadExpr(%s) = %v", s, f)
	}
	return e
}

// bound is the node of a text that has no error.
func bound(t *testing.T, s string, l scope) node {
	t.Helper()
	n, code := typing.Bind(parsed(t, s), l, true)
	if code != api.OK {
		t.Fatalf("Bind(%s) = %v", s, code)
	}
	return n
}

// refuses holds that an expression has this error.
func refuses(t *testing.T, e expr, l scope, aggregates bool, want api.Errno) {
	t.Helper()
	if n, code := typing.Bind(e, l, aggregates); code != want || !equal(n, node{}) {
		s, _ := syntax.Write(e)
		t.Errorf("Bind(%.200s) = %v %v, want %v", s, n, code, want)
	}
}

// equal reports whether two nodes of no great depth are equal.
func equal(a, b node) bool {
	return a.Kind == b.Kind && a.Op == b.Op && a.Value == b.Value && a.Slot == b.Slot && a.Type == b.Type && equalAll(a.Args, b.Args)
}

// equalAll reports whether two lists are equal.
func equalAll(a, b nodes) bool { return slices.EqualFunc(a, b, equal) }

// chance are numbers that follow from each other.
type chance uint64

// below is the next number, from 0 to n - 1.
func (c *chance) below(n int) int {
	*c = *c*6364136223846793005 + 1442695040888963407
	return int(uint64(*c)>>33) % n
}

// of is the next one of l.
func (c *chance) of(l []string) string { return l[c.below(len(l))] }

// expr is a next valid expression of at most that depth, with few errors in its types.
func (c *chance) expr(depth int) expr { return c.typed(depth, uint8(c.below(4))) }

// typed is a next expression that has that type, or any for 0, unless it comes otherwise.
func (c *chance) typed(depth int, kind uint8) expr {
	if kind == 0 || c.below(40) == 0 {
		kind = 1 + uint8(c.below(3))
	}
	if depth == 1 {
		return c.leaf(kind)
	}
	choice := c.below(8)
	if choice < 2 {
		return c.leaf(kind)
	}
	if choice == 2 {
		return expr{Kind: 6, Op: c.of([]string{"min", "max"}), Args: exprs{c.typed(depth-1, kind)}}
	}
	if kind != 1 {
		return bin(c.typed(depth-1, kind), "||", c.typed(depth-1, kind))
	}
	one, any := func() expr { return c.typed(depth-1, 1) }, 1+uint8(c.below(3))
	switch choice {
	case 3:
		return un(c.of([]string{"-", "not"}), one())
	case 4:
		return bin(c.typed(depth-1, any), c.of(strings.Fields("= <> < <= > >=")), c.typed(depth-1, any))
	case 5:
		return c.rest(depth, any)
	}
	return bin(one(), c.of(strings.Fields("or and + - * / %")), one())
}

// rest is a next expression that is none of one or two arguments between signs.
func (c *chance) rest(depth int, any uint8) expr {
	switch c.below(5) {
	case 0:
		return expr{Kind: 5, Op: c.of([]string{"is null", "is not null"}), Args: exprs{c.typed(depth-1, any)}}
	case 1:
		return expr{Kind: 6, Op: c.of([]string{"count", "sum"}), Args: exprs{c.typed(depth-1, 1)}}
	case 2:
		return expr{Kind: 7, Op: "length", Args: exprs{c.typed(depth-1, 2+any%2)}}
	case 3:
		return bin(c.typed(depth-1, 2), "like", c.typed(depth-1, 2))
	}
	e := expr{Kind: 7, Op: c.of([]string{"overlaps", "contains"})}
	for range 4 {
		e.Args = append(e.Args, c.typed(depth-1, 1))
	}
	return e
}

// leaf is a next literal or column of that kind.
func (c *chance) leaf(kind uint8) expr {
	switch c.below(6) {
	case 0:
		return expr{Kind: 1}
	case 1:
		if kind == 1 {
			return number(int64(c.below(9)))
		}
		return expr{Kind: 1, Value: api.Value{Kind: kind, Text: "a"}}
	case 2:
		return columnOf(c.of([]string{"u", "u", "u", "v"}), string("itb"[kind-1]))
	}
	return column(string("itb"[kind-1]))
}
