package syntax_test

import (
	"math"
	"slices"
	"strings"
	"testing"

	"hindsight/api"
	"hindsight/syntax"
)

func TestP20_1Right(t *testing.T) {
	for s, e := range right() {
		if !syntax.Right(e) {
			t.Errorf("%s is not right", s)
		}
		for i, x := range inside(e) {
			if !syntax.Right(x) {
				t.Errorf("%s is not right, inside %d", s, i)
			}
		}
	}
	for i, e := range wrong() {
		if syntax.Right(e) {
			t.Errorf("%d: %.100v is right", i, e)
		}
		for j, x := range inside(e) {
			if syntax.Right(x) {
				t.Errorf("%d: %.100v is right, inside %d", i, e, j)
			}
		}
	}
}

// TestP20_1RightOps has each operation with each kind and each number of arguments.
func TestP20_1RightOps(t *testing.T) {
	ops := slices.Concat(unary(), binary(), nulls(), aggregates(), []string{"overlaps", "contains", "length", "", "avg", "is", "AND", "Sum", "!=", "*)"})
	slices.Sort(ops)
	ops = slices.Compact(ops)
	found := 0
	for kind := -2; kind < 12; kind++ {
		for _, op := range ops {
			for count := range 7 {
				e := expr{Kind: kind, Op: op, Args: slices.Repeat(exprs{column("a")}, count)}
				// Without anything, null is also one.
				want := takes(kind, op, count) || kind == 1 && op == "" && count == 0
				if want {
					found++
				}
				if syntax.Right(e) != want {
					t.Errorf("Right of kind %d, %q and %d arguments = %v", kind, op, count, !want)
				}
				if _, code := syntax.Write(e); (code == api.OK) != want || !want && code != api.ErrForm {
					t.Errorf("Write of kind %d, %q and %d arguments = %v", kind, op, count, code)
				}
			}
		}
	}
	if want := 1 + 2 + 15 + 2 + 5 + 3; found != want {
		t.Errorf("%d operations, want %d", found, want)
	}
}

// TestP20_1RightEmpty has expressions with one field that must be empty.
func TestP20_1RightEmpty(t *testing.T) {
	values := []api.Value{{Kind: api.Int}, {Kind: api.Text}, {Kind: api.Blob}, {Int: 1}, {Text: "a"}, {Kind: api.Int, Int: 1}, {Kind: 255}}
	for s, e := range right() {
		var l exprs
		with := func(change func(x *expr)) {
			x := e
			change(&x)
			l = append(l, x)
		}
		if e.Kind != 1 {
			for _, v := range values {
				with(func(x *expr) { x.Value = v })
			}
		}
		if e.Kind != 2 {
			with(func(x *expr) { x.Name = "a" })
			with(func(x *expr) { x.Name = " " })
			with(func(x *expr) { x.Table = "a" })
			with(func(x *expr) { x.Table = "null" })
		}
		if e.Kind < 3 {
			with(func(x *expr) { x.Op = "-" })
			with(func(x *expr) { x.Op = "count" })
			with(func(x *expr) { x.Op = " " })
			with(func(x *expr) { x.Args = exprs{column("a")} })
			with(func(x *expr) { x.Args = exprs{{}} })
		}
		for _, x := range l {
			if syntax.Right(x) {
				t.Errorf("%s with a field is right: %v", s, x)
			}
			if s, code := syntax.Write(x); s != "" || code != api.ErrForm {
				t.Errorf("Write(%v) = %q %v", x, s, code)
			}
		}
		// An empty list of arguments may be nil or not.
		x := e
		x.Args = append(make(exprs, 0, 9), e.Args...)
		if !syntax.Right(x) || !syntax.Same(x, e) || !syntax.Same(e, x) {
			t.Errorf("%s is not right in another memory", s)
		}
	}
}

func TestP20_1Reserved(t *testing.T) {
	words := reserved()
	if len(words) != 49 {
		t.Fatalf("%d words", len(words))
	}
	for _, s := range words {
		if !syntax.Reserved(s) {
			t.Errorf("%s is not reserved", s)
		}
		for _, x := range []string{strings.ToUpper(s), strings.ToUpper(s[:1]) + s[1:], s + " ", " " + s, s + "_", "_" + s, s + s, s[:len(s)-1], s[1:], s + "\x00", s + ","} {
			if syntax.Reserved(x) != slices.Contains(words, x) {
				t.Errorf("Reserved(%q) = %v", x, !slices.Contains(words, x))
			}
		}
	}
	for _, s := range []string{
		"", " ", "a", "all", "count", "sum", "min", "max", "overlaps", "contains", "length", "system", "time", "sys_from", "sys_to", "is null", "is not null", "unique", "having", "by group", "null, of", "values, where", "outer", "left", "as of",
		"true", "false", "default", "exists", "in", "union", "case", "offset", "with", "version", "column", "end", "transaction", "\xff", strings.Repeat("a", 1<<20),
	} {
		if syntax.Reserved(s) {
			t.Errorf("%.40q is reserved", s)
		}
	}
	if slices.ContainsFunc(append(slices.Concat(aggregates(), nulls()), "overlaps", "contains", "length"), syntax.Reserved) {
		t.Error("the name of a call is reserved")
	}
}

func TestP20_1Deep(t *testing.T) {
	for n := 1; n <= 60; n++ {
		e := nested(n)
		if d := syntax.Deep(e); d != min(n, 21) {
			t.Errorf("Deep of %d = %d", n, d)
		}
		if syntax.Right(e) != (n <= 20) {
			t.Errorf("Right of depth %d = %v", n, n > 20)
		}
		// Beside another argument, at either side.
		for _, x := range (exprs{bin(e, "+", number(1)), bin(number(1), "+", e), bin(e, "+", e), bin(e, "+", nested(1)), call("contains", nested(2), e, nested(3), null())}) {
			least := max(n+1, 2)
			if x.Kind == 7 {
				least = max(n+1, 4)
			}
			if d := syntax.Deep(x); d != min(least, 21) || syntax.Right(x) != (least <= 20) {
				t.Errorf("Deep beside an expression of depth %d = %d", n, d)
			}
		}
	}
	for _, e := range right() {
		if e.Args == nil && syntax.Deep(e) != 1 {
			t.Errorf("Deep(%v) = %d", e, syntax.Deep(e))
		}
	}
	// Only the arguments count, whether they are valid or not.
	for _, c := range []struct {
		e    expr
		want int
	}{
		{expr{}, 1}, {expr{Kind: 1, Args: exprs{}}, 1}, {expr{Kind: 1, Args: exprs{{}}}, 2}, {expr{Kind: 2, Args: exprs{{}, {Kind: 9, Args: exprs{{}}}, {}}}, 3},
		{expr{Kind: -1, Args: exprs{un("", un("", expr{})), {}}}, 4}, {call("overlaps", number(-1)), 2}, {expr{Args: make(exprs, 100000)}, 2}, {expr{Args: exprs{1: nested(19)}}, 20}, {expr{Args: exprs{1: nested(20)}}, 21}, {expr{Args: exprs{1: nested(21)}}, 21},
	} {
		if d := syntax.Deep(c.e); d != c.want {
			t.Errorf("Deep(%.100v) = %d, want %d", c.e, d, c.want)
		}
	}
}

// TestP20_1Deeper has expressions of many levels, also without end.
func TestP20_1Deeper(t *testing.T) {
	l := append(endless(), nested(21), nested(22), nested(1000), nested(1<<16))
	e := column("a")
	for range 64 {
		e = bin(e, "+", e)
	}
	for i, e := range append(l, e) {
		if d := syntax.Deep(e); d != 21 {
			t.Errorf("%d: Deep = %d", i, d)
		}
		if syntax.Right(e) || syntax.Same(e, e) {
			t.Errorf("%d: Right = %v, Same = %v", i, syntax.Right(e), syntax.Same(e, e))
		}
		if syntax.Same(e, nested(3)) || syntax.Same(nested(3), e) || syntax.Same(e, expr{}) || syntax.Same(nested(20), e) {
			t.Errorf("%d is the same as another one", i)
		}
		if s, code := syntax.Write(e); s != "" || code != api.ErrForm {
			t.Errorf("%d: Write = %.40q %v", i, s, code)
		}
		if len(syntax.Columns(e)) != 0 || len(syntax.Aggregates(e)) != 0 {
			t.Errorf("%d: %d columns, %d aggregates", i, len(syntax.Columns(e)), len(syntax.Aggregates(e)))
		}
	}
}

// TestP20_1Shared has expressions of the greatest depth that share their arguments.
func TestP20_1Shared(t *testing.T) {
	e := column("a")
	for range 15 {
		e = bin(e, "+", e)
	}
	if !syntax.Right(e) || syntax.Deep(e) != 16 || !syntax.Same(e, e) || len(syntax.Columns(e)) != 1<<15 {
		t.Errorf("Right = %v, Deep = %d, Same = %v, %d columns", syntax.Right(e), syntax.Deep(e), syntax.Same(e, e), len(syntax.Columns(e)))
	}
	if s := written(t, e); len(s) != 1<<15+5*(1<<15-1) {
		t.Errorf("Write has %d bytes", len(s))
	}
}

func TestP20_1Same(t *testing.T) {
	var l exprs
	for _, e := range right() {
		l = append(l, e)
	}
	for _, e := range wrong() {
		if !slices.ContainsFunc(l, func(x expr) bool { return equal(x, e) }) {
			l = append(l, e)
		}
	}
	for i, a := range l {
		for j, b := range l {
			if syntax.Same(a, b) != (i == j) {
				t.Errorf("Same(%.100v, %.100v) = %v", a, b, i != j)
			}
			if syntax.Same(bin(null(), "+", un("-", a)), bin(null(), "+", un("-", b))) != (i == j) {
				t.Errorf("Same inside, of %.100v and %.100v = %v", a, b, i != j)
			}
		}
	}
}

// TestP20_1SameFields has expressions that differ by one field, also by one that must be empty.
func TestP20_1SameFields(t *testing.T) {
	base := expr{Kind: 4, Value: api.Value{Kind: 2, Int: 3, Text: "v"}, Table: "t", Name: "n", Op: "+", Args: exprs{number(1), number(2)}}
	same := func(a, b expr, want bool) {
		t.Helper()
		for i := range 3 {
			if syntax.Same(a, b) != want || syntax.Same(b, a) != want {
				t.Errorf("Same(%v, %v) = %v, inside %d", a, b, !want, i)
			}
			a, b = call("", null(), a), call("", null(), b)
		}
	}
	same(base, base, true)
	for _, change := range []func(x *expr){
		func(x *expr) { x.Kind = 5 }, func(x *expr) { x.Kind = 0 }, func(x *expr) { x.Value.Kind = 3 }, func(x *expr) { x.Value.Int = 4 }, func(x *expr) { x.Value.Text = "" },
		func(x *expr) { x.Table = "" }, func(x *expr) { x.Table = "T" }, func(x *expr) { x.Name = "" }, func(x *expr) { x.Name = "n " }, func(x *expr) { x.Op = "" }, func(x *expr) { x.Op = "-" }, func(x *expr) { x.Table, x.Name = x.Name, x.Table },
		func(x *expr) { x.Args = nil }, func(x *expr) { x.Args = x.Args[:1] }, func(x *expr) { x.Args = exprs{number(2), number(1)} }, func(x *expr) { x.Args = exprs{number(1), number(2), null()} }, func(x *expr) { x.Args = exprs{number(1), null()} }, func(x *expr) { x.Args = exprs{{}, number(2)} },
	} {
		x := base
		change(&x)
		same(base, x, false)
		same(x, x, true)
	}
	same(expr{}, expr{}, true)
	same(expr{}, expr{Args: exprs{}}, true)
	same(expr{}, expr{Args: make(exprs, 0, 7)}, true)
	for n := 1; n < 30; n++ {
		if syntax.Same(nested(n), nested(n)) != (n <= 20) || syntax.Same(nested(n), nested(n+1)) || n > 1 && syntax.Same(nested(n), nested(n-1)) {
			t.Errorf("Same of depth %d = %v", n, n > 20)
		}
		a, b := nested(n), nested(n)
		last := &b
		for len(last.Args) > 0 {
			last = &last.Args[len(last.Args)-1]
		}
		last.Name = "q"
		if syntax.Same(a, b) {
			t.Errorf("Same of depth %d, with another name at the end", n)
		}
	}
}

func TestP20_1Write(t *testing.T) {
	for want, e := range right() {
		if s := written(t, e); s != want {
			t.Errorf("Write = %q, want %q", s, want)
		}
		for i, x := range inside(e) {
			templates := []string{"(- E)", "(E is null)", "(E + a)", "(a + E)", "count(E)", "max(E)", "length(E)", "overlaps(E, a, a, a)", "overlaps(a, E, a, a)", "contains(a, a, E, a)", "contains(a, a, a, E)", "(not (a or (E is not null)))"}
			if s := written(t, x); s != strings.Replace(templates[i], "E", want, 1) {
				t.Errorf("Write = %q, want %s of %q", s, templates[i], want)
			}
		}
	}
	for i, e := range wrong() {
		for _, x := range append(inside(e), e) {
			if s, code := syntax.Write(x); s != "" || code != api.ErrForm {
				t.Errorf("%d: Write(%.100v) = %q %v", i, x, s, code)
			}
		}
	}
	long := strings.Repeat("it's ", 100000)
	if s := written(t, bin(text(long), "||", blob(long))); s != "('"+strings.ReplaceAll(long, "'", "''")+"' || x'"+strings.Repeat("6974277320", 100000)+"')" {
		t.Errorf("Write of long texts has %d bytes", len(s))
	}
	deepest := "z"
	for range 4 {
		deepest = "overlaps(null, (- y), '', ((1 + (- " + deepest + ")) is null))"
	}
	deepest = "((1 + (- " + deepest + ")) is null)"
	if s := written(t, nested(20)); s != deepest {
		t.Errorf("Write of the greatest depth = %q, want %q", s, deepest)
	}
}

func TestP20_3Depth(t *testing.T) {
	next := chance(1)
	for range 5000 {
		e := next.expr(1 + next.below(7))
		if d := syntax.Deep(e); d > nodes(e) || d != depth(e) || !syntax.Right(e) {
			t.Fatalf("Deep(%v) = %d, want %d; %d nodes", e, d, depth(e), nodes(e))
		}
	}
	for n := 1; n < 30; n++ {
		e := un("-", column("a"))
		for range n {
			e = un("not", e)
		}
		if d := syntax.Deep(e); d > nodes(e) || n <= 18 && d != nodes(e) {
			t.Errorf("Deep = %d of %d nodes", d, nodes(e))
		}
	}
}

// nodes is the number of e and all that is in it.
func nodes(e expr) int {
	n := 1
	for _, x := range e.Args {
		n += nodes(x)
	}
	return n
}

// depth is the depth of e, by its definition.
func depth(e expr) int {
	most := 0
	for _, x := range e.Args {
		most = max(most, depth(x))
	}
	return most + 1
}

// TestP1Any has expressions of any fields; all functions return, and agree on whether one is valid.
func TestP1Any(t *testing.T) {
	next := chance(2)
	ints := []int{0, 1, 2, 3, 4, 5, 6, 7, 8, -1, math.MinInt, math.MaxInt}
	ops := slices.Concat(unary(), binary(), nulls(), aggregates(), []string{"length", "overlaps", "", "\xff"})
	var any func(levels int) expr
	any = func(levels int) expr {
		e := next.expr(2)
		switch next.below(9) {
		case 0:
			e.Kind = ints[next.below(len(ints))]
		case 1:
			e.Op = next.of(ops)
		case 2:
			e.Value = api.Value{Kind: uint8(next.below(6)), Int: int64(next.below(3) - 1), Text: next.of([]string{"", "", "a"})}
		case 3:
			e.Name, e.Table = next.of([]string{"", "a", "or", "A"}), next.of([]string{"", "a", "or", "A"})
		case 4, 5:
			e.Args = nil
			for range next.below(5) {
				if levels > 0 {
					e.Args = append(e.Args, any(levels-1))
				}
			}
		}
		return e
	}
	valid := 0
	for range 50000 {
		e, f := any(3), any(2)
		s, code := syntax.Write(e)
		if is := syntax.Right(e); is != (code == api.OK) || is != (s != "") || !is && (code != api.ErrForm || len(syntax.Columns(e)) != 0 || len(syntax.Aggregates(e)) != 0) {
			t.Fatalf("%v: Right = %v, Write = %q %v", e, is, s, code)
		} else if is {
			valid++
		}
		if syntax.Same(e, f) != equal(e, f) || !syntax.Same(e, e) || syntax.Deep(e) != depth(e) {
			t.Fatalf("%v and %v: Same = %v, Deep = %d", e, f, syntax.Same(e, f), syntax.Deep(e))
		}
	}
	if valid < 5000 || valid > 45000 {
		t.Errorf("%d are valid", valid)
	}
}
