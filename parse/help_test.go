package parse_test

import (
	"reflect"
	"slices"
	"strings"
	"testing"

	"hindsight/api"
	"hindsight/parse"
	"hindsight/syntax"
)

// Short names for what the tests make by the dozen.
type (
	expr      = syntax.Expr
	exprs     = []syntax.Expr
	statement = parse.Statement
	words     = []string
)

func literal(v api.Value) expr { return expr{Kind: 1, Value: v} }
func number(n int64) expr      { return literal(api.Value{Kind: api.Int, Int: n}) }
func text(s string) expr       { return literal(api.Value{Kind: api.Text, Text: s}) }
func blob(s string) expr       { return literal(api.Value{Kind: api.Blob, Text: s}) }
func null() expr               { return literal(api.Value{}) }

func column(name string) expr            { return expr{Kind: 2, Name: name} }
func columnOf(table, name string) expr   { return expr{Kind: 2, Table: table, Name: name} }
func un(op string, a expr) expr          { return expr{Kind: 3, Op: op, Args: exprs{a}} }
func bin(a expr, op string, b expr) expr { return expr{Kind: 4, Op: op, Args: exprs{a, b}} }
func isNull(a expr, op string) expr      { return expr{Kind: 5, Op: op, Args: exprs{a}} }
func call(op string, l ...expr) expr     { return expr{Kind: kindOf(op), Op: op, Args: l} }

// kindOf is 6 for the name of an aggregate, otherwise 7.
func kindOf(op string) int {
	if slices.Contains(words{"count", "sum", "min", "max"}, op) {
		return 6
	}
	return 7
}

// counts are the numbers of arguments with which there is an aggregate or a call.
func counts(op string) []int {
	switch op {
	case "count":
		return []int{0, 1}
	case "sum", "min", "max", "length":
		return []int{1}
	case "overlaps", "contains":
		return []int{4}
	}
	return nil
}

// reserved are the reserved words, as chapter 20 lists them.
func reserved() words {
	return strings.Fields("and as asc begin between blob by commit create delete desc distinct drop for from group index insert int into is join key like limit not null of on or order period portion primary prune release rollback savepoint select set system_time table text to update values versioned where without")
}

// readExpr is the expression of a text that has no error.
func readExpr(t *testing.T, s string) expr {
	t.Helper()
	e, f := parse.ReadExpr(s)
	if f != (api.Fault{}) {
		t.Fatalf("ReadExpr(%.200q) = %v", s, f)
	}
	return e
}

// read is the statement of a text that has no error.
func read(t *testing.T, s string) statement {
	t.Helper()
	x, f := parse.Read(s)
	if f != (api.Fault{}) {
		t.Fatalf("Read(%.200q) = %v", s, f)
	}
	return x
}

// refusesExpr holds that the text of an expression has this error.
func refusesExpr(t *testing.T, s string, at int, code api.Errno) {
	t.Helper()
	if e, f := parse.ReadExpr(s); !reflect.DeepEqual(e, expr{}) || f != (api.Fault{At: at, Code: code}) {
		t.Errorf("ReadExpr(%.200q) = %v %v, want %d %v", s, e, f, at, code)
	}
}

// refuses holds that the text of a statement has this error.
func refuses(t *testing.T, s string, at int, code api.Errno) {
	t.Helper()
	if x, f := parse.Read(s); !reflect.DeepEqual(x, statement{}) || f != (api.Fault{At: at, Code: code}) {
		t.Errorf("Read(%.200q) = %v %v, want %d %v", s, x, f, at, code)
	}
}

// marked is a text without its mark @, and the offset of what was behind that.
func marked(s string) (string, int) {
	at := strings.IndexByte(s, '@')
	return s[:at] + s[at+1:], at
}

// written is the text of a valid expression.
func written(t *testing.T, e expr) string {
	t.Helper()
	s, code := syntax.Write(e)
	if code != api.OK || s == "" {
		t.Fatalf("Write(%v) = %q %v", e, s, code)
	}
	return s
}

// chance are numbers that follow from each other.
type chance uint64

// below is the next number, from 0 to n - 1.
func (c *chance) below(n int) int {
	*c = *c*6364136223846793005 + 1442695040888963407
	return int(uint64(*c)>>33) % n
}

// is is true as often as not.
func (c *chance) is() bool { return c.below(2) == 0 }

// of is the next one of l.
func (c *chance) of(l words) string { return l[c.below(len(l))] }

// laid is the text of these words, in upper or lower case and with blanks between them as it comes, and the offset of each word, followed by that of the end.
func (c *chance) laid(l words) (string, []int) {
	var b strings.Builder
	var at []int
	for i, w := range l {
		if i > 0 || c.is() {
			b.WriteString(c.of(words{" ", "  ", "\n", "\t\r "}))
		}
		at = append(at, b.Len())
		if !strings.Contains(w, "'") && c.is() {
			w = strings.ToUpper(w)
		}
		b.WriteString(w)
	}
	if c.is() {
		b.WriteString(" \n")
	}
	return b.String(), append(at, b.Len())
}

// expr is a next valid expression of at most that depth.
func (c *chance) expr(depth int) expr {
	kind := 1 + c.below(7)
	if depth == 1 && kind > 2 {
		kind = 1 + c.below(2)
	}
	switch kind {
	case 1:
		return exprs{null(), number(int64(c.below(20))), text(c.of(words{"", "a", "it's", "select"})), blob(c.of(words{"", "a", "\xff"})), call("count")}[c.below(5)]
	case 2:
		return columnOf(c.of(words{"", "t", "count"}), c.of(words{"a", "all", "sys_to", "sum"}))
	case 3:
		return un(c.of(words{"-", "not"}), c.expr(depth-1))
	case 4:
		return bin(c.expr(depth-1), c.of(strings.Fields("or and = <> < <= > >= like || + - * / %")), c.expr(depth-1))
	case 5:
		return isNull(c.expr(depth-1), c.of(words{"is null", "is not null"}))
	case 6:
		return call(c.of(words{"count", "sum", "min", "max", "length"}), c.expr(depth-1))
	}
	return call(c.of(words{"overlaps", "contains"}), c.expr(depth-1), c.expr(depth-1), c.expr(depth-1), c.expr(depth-1))
}

// levelOf is the level of the grammar at which an expression stands without parentheses.
func levelOf(e expr) int {
	switch {
	case e.Kind == 3 && e.Op == "not":
		return 2
	case e.Kind == 3:
		return 7
	case e.Kind == 5:
		return 3
	case e.Kind != 4:
		return 8
	}
	for level, ops := range []string{" or ", " and ", " not ", " = <> < <= > >= like ", " || ", " + - ", " * / % "} {
		if strings.Contains(ops, " "+e.Op+" ") {
			return level
		}
	}
	panic(e.Op)
}

// show is the words of e where one of that level is asked for: with parentheses where it needs them, and elsewhere as it comes.
func (c *chance) show(e expr, level int) words {
	own := levelOf(e)
	if own < level || c.below(8) == 0 {
		return slices.Concat(words{"("}, c.show(e, 0), words{")"})
	}
	switch {
	case e.Table != "":
		return words{e.Table, ".", e.Name}
	case e.Kind < 3:
		return words{leaf(e)}
	case e.Kind == 3:
		return slices.Concat(words{e.Op}, c.show(e.Args[0], own))
	case e.Kind == 4 && own == 3:
		return slices.Concat(c.show(e.Args[0], 4), words{e.Op}, c.show(e.Args[1], 4))
	case e.Kind == 4:
		return slices.Concat(c.show(e.Args[0], own), words{e.Op}, c.show(e.Args[1], own+1))
	case e.Kind == 5:
		return slices.Concat(c.show(e.Args[0], 4), strings.Fields(e.Op))
	case len(e.Args) == 0:
		return words{e.Op, "(", "*", ")"}
	}
	l := words{e.Op, "("}
	for i, x := range e.Args {
		if i > 0 {
			l = append(l, ",")
		}
		l = append(l, c.show(x, 0)...)
	}
	return append(l, ")")
}

// leaf is the text of a literal or a column.
func leaf(e expr) string {
	s, code := syntax.Write(e)
	if code != api.OK {
		panic(s)
	}
	return s
}
