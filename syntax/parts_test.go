package syntax_test

import (
	"strings"
	"testing"

	"hindsight/api"
	"hindsight/syntax"
	"hindsight/token"
)

func TestP20_2Columns(t *testing.T) {
	a, b, c := column("a"), columnOf("t", "b"), column("c")
	for i, x := range []struct {
		e    expr
		want exprs
	}{
		{a, exprs{a}},
		{b, exprs{b}},
		{null(), nil},
		{number(1), nil},
		{text("a"), nil},
		{aggregate("count"), nil},
		{aggregate("count", a), exprs{a}},
		{un("-", b), exprs{b}},
		{isNull(c, "is null"), exprs{c}},
		{bin(a, "+", number(1)), exprs{a}},
		{bin(number(1), "+", a), exprs{a}},
		{bin(a, "=", b), exprs{a, b}},
		{bin(b, "=", a), exprs{b, a}},
		{bin(a, "=", a), exprs{a, a}},
		{bin(column("b"), "=", b), exprs{column("b"), b}},
		{call("overlaps", c, b, a, c), exprs{c, b, a, c}},
		{call("contains", number(1), a, null(), b), exprs{a, b}},
		{bin(bin(a, "+", b), "*", bin(c, "-", a)), exprs{a, b, c, a}},
		{bin(un("-", aggregate("sum", bin(c, "+", b))), ">", call("length", a)), exprs{c, b, a}},
		{aggregate("max", aggregate("min", aggregate("sum", a))), exprs{a}},
		{nested(20), exprs{column("y"), column("y"), column("y"), column("y"), column("z")}},
	} {
		if l := syntax.Columns(x.e); !equalAll(l, x.want) {
			t.Errorf("%d: Columns = %v, want %v", i, l, x.want)
		}
	}
}

func TestP20_2Aggregates(t *testing.T) {
	a, b := column("a"), columnOf("t", "b")
	all, sum, least := aggregate("count"), aggregate("sum", bin(a, "+", b)), aggregate("min", a)
	for i, x := range []struct {
		e    expr
		want exprs
	}{
		{a, nil},
		{number(1), nil},
		{bin(a, "+", b), nil},
		{call("length", a), nil},
		{all, exprs{all}},
		{sum, exprs{sum}},
		{un("-", least), exprs{least}},
		{isNull(all, "is null"), exprs{all}},
		{bin(all, "+", all), exprs{all, all}},
		{bin(sum, "/", all), exprs{sum, all}},
		{bin(all, "/", sum), exprs{all, sum}},
		{bin(a, "/", sum), exprs{sum}},
		{call("overlaps", least, all, b, sum), exprs{least, all, sum}},
		{bin(bin(sum, "+", least), "*", bin(all, "-", sum)), exprs{sum, least, all, sum}},
		// Those inside another one are left out, at any depth, and what is behind it is not.
		{aggregate("max", all), exprs{aggregate("max", all)}},
		{aggregate("max", un("-", bin(sum, "+", all))), exprs{aggregate("max", un("-", bin(sum, "+", all)))}},
		{bin(aggregate("max", all), "+", least), exprs{aggregate("max", all), least}},
		{bin(least, "+", un("not", aggregate("count", aggregate("sum", all)))), exprs{least, aggregate("count", aggregate("sum", all))}},
	} {
		if l := syntax.Aggregates(x.e); !equalAll(l, x.want) {
			t.Errorf("%d: Aggregates = %v, want %v", i, l, x.want)
		}
	}
}

func TestP20_2Wrong(t *testing.T) {
	for i, e := range wrong() {
		l := append(inside(e), e, bin(column("a"), "+", bin(aggregate("count"), "+", e)), bin(e, "+", bin(aggregate("count"), "+", column("a"))), aggregate("sum", bin(column("a"), "+", e)))
		for j, x := range l {
			if len(syntax.Columns(x)) != 0 || len(syntax.Aggregates(x)) != 0 {
				t.Errorf("%d, %d: %v and %v", i, j, syntax.Columns(x), syntax.Aggregates(x))
			}
		}
	}
	both := bin(column("a"), "+", aggregate("count"))
	for n := 2; n < 30; n++ {
		e := both
		for range n - 2 {
			e = un("-", e)
		}
		want := 1
		if n > api.MaxDeep {
			want = 0
		}
		if len(syntax.Columns(e)) != want || len(syntax.Aggregates(e)) != want {
			t.Errorf("depth %d: %v and %v", n, syntax.Columns(e), syntax.Aggregates(e))
		}
	}
}

// TestP20_2ByDefinition has expressions by chance.
func TestP20_2ByDefinition(t *testing.T) {
	next := chance(3)
	for range 5000 {
		e := next.expr(1 + next.below(6))
		if l := syntax.Columns(e); !equalAll(l, within(e, 2, true)) {
			t.Fatalf("Columns(%v) = %v", e, l)
		}
		if l := syntax.Aggregates(e); !equalAll(l, within(e, 6, false)) {
			t.Fatalf("Aggregates(%v) = %v", e, l)
		}
	}
}

// within are the expressions of one kind in e, also inside others of that kind if so asked.
func within(e expr, kind int, also bool) exprs {
	var l exprs
	if e.Kind == kind {
		l = append(l, e)
	}
	if e.Kind == kind && !also {
		return l
	}
	for _, x := range e.Args {
		l = append(l, within(x, kind, also)...)
	}
	return l
}

// TestP1Memory holds that results share no memory with arguments, nor with each other, and that nothing behind a list is read.
func TestP1Memory(t *testing.T) {
	sum := aggregate("sum", bin(column("a"), "+", un("-", column("b"))))
	e := bin(sum, "+", aggregate("max", sum))
	e.Args[0].Args = append(make(exprs, 0, 4), e.Args[0].Args...)
	before := written(t, e)
	aggs, columns := syntax.Aggregates(e), syntax.Columns(e)
	aggs[0].Args[0].Args[1].Args[0].Name = "q"
	aggs[1].Args[0].Args[0].Args[0].Name = "r"
	columns[0].Name = "s"
	if s := written(t, e); s != before {
		t.Errorf("%s became %s", before, s)
	}
	again := syntax.Aggregates(e)
	e.Args[0].Args[0].Args[1].Args[0].Name = "z"
	e.Args[1].Args[0].Args[0].Args[0].Name = "z"
	if s := written(t, bin(again[0], "+", again[1])); s != before {
		t.Errorf("the result became %s", s)
	}

	one := aggregate("sum", un("-", column("a")))
	l := syntax.Aggregates(bin(one, "+", one))
	l[0].Args[0].Args[0].Name = "p"
	if l[1].Args[0].Args[0].Name != "a" {
		t.Error("two results share memory")
	}

	hidden := exprs{column("a"), aggregate("count"), {Kind: -1}}
	short := un("-", expr{})
	short.Args = hidden[:1]
	if !syntax.Right(short) || syntax.Deep(short) != 2 || len(syntax.Aggregates(short)) != 0 || written(t, short) != "(- a)" {
		t.Errorf("what is behind the arguments is read: %v", short)
	}
	bare := expr{Kind: 6, Op: "count", Args: hidden[:0]}
	if l := syntax.Aggregates(bare); len(l) != 1 || cap(l[0].Args) != 0 || written(t, bare) != "count(*)" {
		t.Errorf("Aggregates = %v", l)
	}
	empty := expr{Kind: 2, Name: "a", Args: hidden[:0]}
	if l := syntax.Columns(empty); len(l) != 1 || cap(l[0].Args) != 0 {
		t.Errorf("Columns = %v", l)
	}
	if !equalAll(hidden, exprs{column("a"), aggregate("count"), {Kind: -1}}) {
		t.Errorf("arguments became %v", hidden)
	}
}

// small are all valid expressions of these atoms with at most so many levels of operations.
func small(levels int) exprs {
	l := exprs{column("a"), columnOf("a", "a"), null(), number(1), number(11), text("a"), blob("a"), aggregate("count")}
	if levels == 0 {
		return l
	}
	inner := small(levels - 1)
	for _, x := range inner {
		l = append(l, call("length", x))
		for _, op := range unary() {
			l = append(l, un(op, x))
		}
		for _, op := range nulls() {
			l = append(l, isNull(x, op))
		}
		for _, op := range aggregates() {
			l = append(l, aggregate(op, x))
		}
		for _, y := range inner {
			for _, op := range []string{"-", "or", "||"} {
				l = append(l, bin(x, op, y))
			}
		}
	}
	return l
}

// TestP20_4Different holds that no two expressions have one text.
func TestP20_4Different(t *testing.T) {
	seen := map[string]expr{}
	hold := func(e expr) {
		s := written(t, e)
		if x, is := seen[s]; is && !equal(x, e) {
			t.Fatalf("%v and %v are both %q", x, e, s)
		}
		seen[s] = e
	}
	l := small(2)
	for _, e := range l {
		hold(e)
	}
	if len(seen) < 100000 {
		t.Errorf("%d texts", len(seen))
	}
	next := chance(4)
	for range 20000 {
		hold(next.expr(1 + next.below(7)))
	}
	for _, e := range right() {
		hold(e)
		for _, x := range inside(e) {
			hold(x)
		}
	}
	texts := exprs{text("a, b"), text("a', 'b"), text("a"), text("b"), text(""), text("'"), text("''"), text(", "), text("', '"), text(") + ("), text("(a + 1)"), blob("a"), column("a")}
	for _, x := range texts {
		for _, y := range texts {
			hold(bin(x, "||", y))
			hold(bin(x, "+", y))
			for _, z := range texts {
				hold(call("overlaps", x, y, z, null()))
			}
		}
	}
}

// TestP20_4Tokens holds that a text has the tokens of its parts, so that all of it can be read again.
func TestP20_4Tokens(t *testing.T) {
	check := func(e expr) {
		s := written(t, e)
		if strings.Contains(s, "\xff") || len(s) > 4096 {
			return
		}
		l, f := token.Read(s)
		if f.Code != api.OK {
			t.Fatalf("Read(%q) = %v", s, f)
		}
		words := token.Write(l)
		if want := spread(e); words != want {
			t.Fatalf("%q has the tokens %q, want %q", s, words, want)
		}
	}
	for _, e := range right() {
		check(e)
	}
	next := chance(5)
	for range 5000 {
		check(next.expr(1 + next.below(6)))
	}
}

// spread is the tokens of e, with a blank between any two.
func spread(e expr) string {
	var l []string
	for _, x := range e.Args {
		l = append(l, spread(x))
	}
	switch e.Kind {
	case 1:
		return map[uint8]string{0: "null", 1: token.Write([]token.Token{{Kind: 2, Int: e.Value.Int}}), 2: token.Write([]token.Token{{Kind: 3, Text: e.Value.Text}}), 3: token.Write([]token.Token{{Kind: 4, Text: e.Value.Text}})}[e.Value.Kind]
	case 2:
		if e.Table != "" {
			return e.Table + " . " + e.Name
		}
		return e.Name
	case 3:
		return "( " + e.Op + " " + l[0] + " )"
	case 4:
		return "( " + l[0] + " " + e.Op + " " + l[1] + " )"
	case 5:
		return "( " + l[0] + " " + e.Op + " )"
	}
	if len(l) == 0 {
		l = []string{"*"}
	}
	return e.Op + " ( " + strings.Join(l, " , ") + " )"
}
