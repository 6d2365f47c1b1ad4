package syntax_test

import (
	"math"
	"slices"
	"strings"
	"testing"

	"hindsight/api"
	"hindsight/syntax"
)

// Short names for what the tests make by the dozen.
type (
	expr  = syntax.Expr
	exprs = []syntax.Expr
)

func literal(v api.Value) expr { return expr{Kind: 1, Value: v} }
func number(n int64) expr      { return literal(api.Value{Kind: api.Int, Int: n}) }
func text(s string) expr       { return literal(api.Value{Kind: api.Text, Text: s}) }
func blob(s string) expr       { return literal(api.Value{Kind: api.Blob, Text: s}) }
func null() expr               { return literal(api.Value{}) }

func column(name string) expr             { return expr{Kind: 2, Name: name} }
func columnOf(table, name string) expr    { return expr{Kind: 2, Table: table, Name: name} }
func un(op string, a expr) expr           { return expr{Kind: 3, Op: op, Args: exprs{a}} }
func bin(a expr, op string, b expr) expr  { return expr{Kind: 4, Op: op, Args: exprs{a, b}} }
func isNull(a expr, op string) expr       { return expr{Kind: 5, Op: op, Args: exprs{a}} }
func aggregate(op string, l ...expr) expr { return expr{Kind: 6, Op: op, Args: l} }
func call(op string, l ...expr) expr      { return expr{Kind: 7, Op: op, Args: l} }

// The operations of each kind, and how many arguments they take.
func unary() []string      { return []string{"-", "not"} }
func binary() []string     { return strings.Fields("or and = <> < <= > >= like || + - * / %") }
func nulls() []string      { return []string{"is null", "is not null"} }
func aggregates() []string { return []string{"count", "sum", "min", "max"} }

// takes is the table of the operations: whether there is one of that kind with so many arguments.
func takes(kind int, op string, count int) bool {
	switch {
	case kind == 3:
		return slices.Contains(unary(), op) && count == 1
	case kind == 4:
		return slices.Contains(binary(), op) && count == 2
	case kind == 5:
		return slices.Contains(nulls(), op) && count == 1
	case kind == 6 && op == "count":
		return count < 2
	case kind == 6:
		return slices.Contains(aggregates(), op) && count == 1
	case kind == 7 && op == "length":
		return count == 1
	}
	return kind == 7 && (op == "overlaps" || op == "contains") && count == 4
}

// reserved are the reserved words, as the chapter lists them.
func reserved() []string {
	return strings.Split("and, as, asc, begin, between, blob, by, commit, create, delete, desc, distinct, drop, for, from, group, index, insert, int, into, is, join, key, like, limit, not, null, of, on, or, order, period, portion, primary, prune, release, rollback, savepoint, select, set, system_time, table, text, to, update, values, versioned, where, without", ", ")
}

// right are valid expressions with their texts, no two of them the same.
func right() map[string]expr {
	a, b, one := column("a"), columnOf("t", "b"), number(1)
	l := map[string]expr{
		"null": null(), "0": number(0), "1": one, "9223372036854775807": number(math.MaxInt64),
		"''": text(""), "'it''s'": text("it's"), "'null'": text("null"), "'\u00e4\n\x00'": text("\u00e4\n\x00"), "'\xff'": text("\xff"), "'x''00'''": text("x'00'"),
		"x''": blob(""), "x'00ff27'": blob("\x00\xff'"), "x'c3a4'": blob("\u00e4"),
		"a": a, "t.b": b, "t.t": columnOf("t", "t"), "x": column("x"), "_": column("_"), "a1_": column("a1_"), "sys_from": column("sys_from"), "count": column("count"), "all.length": columnOf("all", "length"), "min.max": columnOf("min", "max"),
		strings.Repeat("n", 20) + "." + strings.Repeat("m", 20): columnOf(strings.Repeat("n", 20), strings.Repeat("m", 20)),

		"(- 1)": un("-", one), "(not a)": un("not", a), "(- (- a))": un("-", un("-", a)), "(not (- t.b))": un("not", un("-", b)),
		"(a is null)": isNull(a, "is null"), "(a is not null)": isNull(a, "is not null"), "((a is null) is not null)": isNull(isNull(a, "is null"), "is not null"), "((not a) is null)": isNull(un("not", a), "is null"), "(not (a is null))": un("not", isNull(a, "is null")),
		"count(*)": aggregate("count"), "count(a)": aggregate("count", a), "sum(1)": aggregate("sum", one), "min('')": aggregate("min", text("")), "max(null)": aggregate("max", null()), "sum(count(*))": aggregate("sum", aggregate("count")),
		"length(a)": call("length", a), "overlaps(a, 1, t.b, null)": call("overlaps", a, one, b, null()), "contains(null, t.b, 1, a)": call("contains", null(), b, one, a), "length(length('a, b'))": call("length", call("length", text("a, b"))),

		"(a + 1)": bin(a, "+", one), "(1 + a)": bin(one, "+", a), "((1 + a) * t.b)": bin(bin(one, "+", a), "*", b), "(1 + (a * t.b))": bin(one, "+", bin(a, "*", b)), "((1 - a) - t.b)": bin(bin(one, "-", a), "-", b), "(1 - (a - t.b))": bin(one, "-", bin(a, "-", b)),
		"(count(*) > 1)": bin(aggregate("count"), ">", one), "(('a' || x'61') = null)": bin(bin(text("a"), "||", blob("a")), "=", null()), "(a - (- 1))": bin(a, "-", un("-", one)),
	}
	for _, op := range binary() {
		l["(t.b "+op+" a)"] = bin(b, op, a)
	}
	return l
}

// wrong are expressions that are not valid, of themselves and not for their depth.
func wrong() exprs {
	a, one := column("a"), number(1)
	l := exprs{
		{}, {Kind: -1}, {Kind: 8}, {Kind: math.MinInt}, {Kind: math.MaxInt}, {Kind: 256 + 1}, {Name: "a"}, {Op: "count"}, {Args: exprs{one}}, {Value: one.Value},
		number(-1), number(math.MinInt64),
		literal(api.Value{Int: 1}), literal(api.Value{Int: -1}), literal(api.Value{Text: "a"}), literal(api.Value{Kind: api.Int, Text: "a"}), literal(api.Value{Kind: api.Text, Int: 1}), literal(api.Value{Kind: api.Blob, Int: 1, Text: "a"}), literal(api.Value{Kind: api.Text, Int: -1}), literal(api.Value{Kind: 4}), literal(api.Value{Kind: 255, Text: "a"}),
		column(""), columnOf("t", ""), aggregate(""), call(""), call("count"), call("sum", a), aggregate("length", a), aggregate("avg", a), call("Length", a), aggregate("COUNT"), un("+", a), un("!", a), un("NOT", a), un("is null", a), un("", a), isNull(a, "is"), isNull(a, "IS NULL"), isNull(a, "is  null"), isNull(a, "not null"), isNull(a, ""), isNull(a, "is not null "), bin(a, "==", one), bin(a, "!=", one), bin(a, "OR", one), bin(a, "not", one), bin(a, "", one), bin(a, "|", one), bin(a, " + ", one), bin(a, "is", one),
	}
	for _, s := range append(noNames(), reserved()...) {
		l = append(l, column(s), columnOf("t", s))
		if s != "" {
			l = append(l, columnOf(s, "a"))
		}
	}
	return l
}

// noNames are not names in canonical form.
func noNames() []string {
	return []string{
		"", "A", "aB", "T", "1", "1a", "a b", " a", "a ", "a-b", "a.b", "'a'", "*", "-", "\u00e4", "a\u00e4", "a\x00", "\x00", "a\n", "\xff", "a\xff", "SELECT", "Null", "a(", "a)",
		strings.Repeat("a", api.MaxName+1), strings.Repeat("a", 256), strings.Repeat("a", 1<<20),
	}
}

// inside are expressions in which e is an argument, at each place.
func inside(e expr) exprs {
	a := column("a")
	return exprs{
		un("-", e), isNull(e, "is null"), bin(e, "+", a), bin(a, "+", e), aggregate("count", e), aggregate("max", e), call("length", e),
		call("overlaps", e, a, a, a), call("overlaps", a, e, a, a), call("contains", a, a, e, a), call("contains", a, a, a, e), un("not", bin(a, "or", isNull(e, "is not null"))),
	}
}

// nested is an expression of that depth, at least 1, that is deepest at the end.
func nested(depth int) expr {
	e := column("z")
	for i := range depth - 1 {
		switch i % 4 {
		case 0:
			e = un("-", e)
		case 1:
			e = bin(number(1), "+", e)
		case 2:
			e = isNull(e, "is null")
		case 3:
			e = call("overlaps", null(), un("-", column("y")), text(""), e)
		}
	}
	return e
}

// endless are expressions that are inside themselves.
func endless() exprs {
	var l exprs
	for _, e := range []expr{un("not", expr{}), bin(column("a"), "+", expr{}), aggregate("sum", expr{}), call("contains", column("a"), number(1), null(), expr{}), {Kind: 99, Args: exprs{{}, {}}}} {
		e.Args[len(e.Args)-1] = e
		l = append(l, e)
	}
	both := bin(expr{}, "and", expr{})
	both.Args[0], both.Args[1] = both, both
	return append(l, both)
}

// equal reports whether two expressions of no great depth are equal.
func equal(a, b expr) bool {
	if a.Kind != b.Kind || a.Value != b.Value || a.Table != b.Table || a.Name != b.Name || a.Op != b.Op || len(a.Args) != len(b.Args) {
		return false
	}
	for i := range a.Args {
		if !equal(a.Args[i], b.Args[i]) {
			return false
		}
	}
	return true
}

// equalAll reports whether two lists are equal.
func equalAll(a, b exprs) bool { return equal(call("", a...), call("", b...)) }

// written is the text of a valid expression.
func written(t *testing.T, e expr) string {
	t.Helper()
	s, code := syntax.Write(e)
	if code != api.OK || s == "" {
		t.Fatalf("Write(%v) = %q %v", e, s, code)
	}
	return s
}

// chance are numbers that follow from each other.
type chance uint64

// below is the next number, from 0 to n - 1.
func (c *chance) below(n int) int {
	*c = *c*6364136223846793005 + 1442695040888963407
	return int(uint64(*c)>>33) % n
}

// of is the next one of l.
func (c *chance) of(l []string) string { return l[c.below(len(l))] }

// expr is a next valid expression of at most that depth.
func (c *chance) expr(depth int) expr {
	kind := 1 + c.below(7)
	if depth == 1 && kind > 2 && (kind != 6 || c.below(4) > 0) {
		kind = 1 + c.below(2)
	}
	switch kind {
	case 1:
		return []expr{null(), number(int64(c.below(20))), text(c.of([]string{"", "a", "'", "a b", "null"})), blob(c.of([]string{"", "a", "\xff"}))}[c.below(4)]
	case 2:
		return columnOf(c.of([]string{"", "t", "a"}), c.of([]string{"a", "b", "count", "sys_to"}))
	case 3:
		return un(c.of(unary()), c.expr(depth-1))
	case 4:
		return bin(c.expr(depth-1), c.of(binary()), c.expr(depth-1))
	case 5:
		return isNull(c.expr(depth-1), c.of(nulls()))
	case 6:
		if depth == 1 {
			return aggregate("count")
		}
		return aggregate(c.of(aggregates()), c.expr(depth-1))
	}
	if c.below(2) == 0 {
		return call("length", c.expr(depth-1))
	}
	return call(c.of([]string{"overlaps", "contains"}), c.expr(depth-1), c.expr(depth-1), c.expr(depth-1), c.expr(depth-1))
}
