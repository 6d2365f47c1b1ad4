package parse_test

import (
	"math"
	"slices"
	"strings"
	"testing"

	"hindsight/api"
	"hindsight/parse"
	"hindsight/syntax"
)

// TestP21_1Known has an expression as it can be written, and its text.
func TestP21_1Known(t *testing.T) {
	for s, want := range map[string]string{
		"1+2*a": "(1 + (2 * a))",

		// A number, a quoted string, bytes, NULL, a column.
		"0": "0", "007": "7", "9223372036854775807": "9223372036854775807", "''": "''", "'it''s'": "'it''s'", "x'0Aff'": "x'0aff'", "X''": "x''", "NuLL": "null",
		"A": "a", "t.a": "t.a", "T . A": "t.a", "x": "x", "_": "_", "all": "all", "of1": "of1", "overlaps": "overlaps", "count": "count", "sum.length": "sum.length", "nulls": "nulls", "sys_from": "sys_from",
		strings.Repeat("a", 20) + "." + strings.Repeat("B", 20): strings.Repeat("a", 20) + "." + strings.Repeat("b", 20),
		"(a)": "a", "((1))": "1", " ( ( null ) ) ": "null", "(t.a)": "t.a",

		// An Agg or a Call.
		"count(*)": "count(*)", "COUNT ( * )": "count(*)", "count(a)": "count(a)", "count((a))": "count(a)", "sum(1)": "sum(1)", "Min(a)": "min(a)", "max(t.a)": "max(t.a)",
		"length('a')": "length('a')", "overlaps(a,b,1,2)": "overlaps(a, b, 1, 2)", "contains(a, 1+1, (c), null)": "contains(a, (1 + 1), c, null)",
		"sum(count(*))": "sum(count(*))", "length(length(a) or b)": "length((length(a) or b))", "count(*)*2": "(count(*) * 2)", "count(a*b)": "count((a * b))",

		// The levels, from the last one to the first one.
		"-1": "(- 1)", "- -1": "(- (- 1))", "--a": "(- (- a))", "-(-a)": "(- (- a))", "-t.a": "(- t.a)", "-count(*)": "(- count(*))", "-null": "(- null)", "-'a'": "(- 'a')",
		"-a*b": "((- a) * b)", "a*-b": "(a * (- b))", "-(a*b)": "(- (a * b))", "a*b+c": "((a * b) + c)", "a+b*c": "(a + (b * c))", "(a+b)*c": "((a + b) * c)", "a-b/c%d": "(a - ((b / c) % d))", "a%b-c": "((a % b) - c)", "-a+b": "((- a) + b)", "a--b": "(a - (- b))", "a - -b - c": "((a - (- b)) - c)",
		"a||b+c": "(a || (b + c))", "a+b||c": "((a + b) || c)", "a||-b": "(a || (- b))", "(a||b)+c": "((a || b) + c)",
		"a=b||c": "(a = (b || c))", "a||b=c": "((a || b) = c)", "(a=b)||c": "((a = b) || c)", "a+1<b*2": "((a + 1) < (b * 2))", "a like b||'%'": "(a like (b || '%'))", "a LIKE b": "(a like b)", "a<>b": "(a <> b)", "a<=b": "(a <= b)", "a>=-b": "(a >= (- b))", "a>b": "(a > b)",
		"a is null": "(a is null)", "a Is Not Null": "(a is not null)", "a+b is null": "((a + b) is null)", "a||b is not null": "((a || b) is not null)", "-a is null": "((- a) is null)", "null is null": "(null is null)", "(a is null) is not null": "((a is null) is not null)", "(a=b)=c": "((a = b) = c)", "a=(b=c)": "(a = (b = c))", "(a=b) is null": "((a = b) is null)", "a = (b is null)": "(a = (b is null))",
		"not a": "(not a)", "not not a": "(not (not a))", "not a=b": "(not (a = b))", "(not a)=b": "((not a) = b)", "not a is null": "(not (a is null))", "not -a": "(not (- a))", "not(a)": "(not a)", "a=(not b)": "(a = (not b))", "-(not a)": "(- (not a))", "not a like b": "(not (a like b))",
		"not a and b": "((not a) and b)", "not (a and b)": "(not (a and b))", "a and not b": "(a and (not b))", "a and b=c": "(a and (b = c))", "a is null and b": "((a is null) and b)", "a and b is null": "(a and (b is null))",
		"a or b and c": "(a or (b and c))", "a and b or c": "((a and b) or c)", "(a or b) and c": "((a or b) and c)", "not a or b": "((not a) or b)", "a or not b and c": "(a or ((not b) and c))", "a or b=1 and c": "(a or ((b = 1) and c))",

		// To the left.
		"a or b or c": "((a or b) or c)", "a and b and c": "((a and b) and c)", "a||b||c": "((a || b) || c)", "a+b-c+d": "(((a + b) - c) + d)", "a*b/c%d*e": "((((a * b) / c) % d) * e)", "a-(b-c)": "(a - (b - c))", "a or (b or c)": "(a or (b or c))", "a||(b||c)": "(a || (b || c))",

		// All at once.
		"not-a*b+c||d<e and f or g":                   "(((not (((((- a) * b) + c) || d) < e)) and f) or g)",
		"g or f and not e=d||c+b*-a":                  "(g or (f and (not (e = (d || (c + (b * (- a))))))))",
		"a\n+\tb\r*  c":                               "(a + (b * c))",
		"x'61'||'a'":                                  "(x'61' || 'a')",
		"overlaps(a,b,c,d)or contains(- a,b,c,'x')=1": "(overlaps(a, b, c, d) or (contains((- a), b, c, 'x') = 1))",
	} {
		e, f := parse.ReadExpr(s)
		if f != (api.Fault{}) {
			t.Errorf("ReadExpr(%q) = %v", s, f)
		} else if got := written(t, e); got != want {
			t.Errorf("ReadExpr(%q) is %s, want %s", s, got, want)
		}
	}
}

// TestP21_1Nodes has the fields of the expressions.
func TestP21_1Nodes(t *testing.T) {
	a, b := column("a"), columnOf("t", "b")
	for s, want := range map[string]expr{
		"5": number(5), "9223372036854775807": number(math.MaxInt64), "'a'": text("a"), "x'6100'": blob("a\x00"), "null": null(), "a": a, "T.B": b,
		"-a": un("-", a), "NOT a": un("not", a), "a AND t.b": bin(a, "and", b), "a LIKE 'x'": bin(a, "like", text("x")), "a<>1": bin(a, "<>", number(1)),
		"a IS NULL": isNull(a, "is null"), "a IS  NOT\nNULL": isNull(a, "is not null"), "COUNT(*)": call("count"), "Sum(a)": call("sum", a), "LENGTH(t.b)": call("length", b), "overlaps(a,t.b,1,null)": call("overlaps", a, b, number(1), null()), "contains(null,1,t.b,a)": call("contains", null(), number(1), b, a),
	} {
		if e := readExpr(t, s); !syntax.Same(e, want) {
			t.Errorf("ReadExpr(%q) = %v, want %v", s, e, want)
		}
	}
}

// TestP21_1Wrong has the offset of the first token at which parsing cannot continue, marked by @.
func TestP21_1Wrong(t *testing.T) {
	for _, s := range []string{
		// Too short or too long.
		"@", "  @", "(@", "(a@", "(a @", "((a)@", "a.@", "a+@", "a*@", "a||@", "a=@", "a like@", "a is @", "a is not @", "a and @", "a or @", "-@", "- -@", "not@", "not not @", "a(@", "count(@", "count(*@", "count(a@", "count(a,@", "f(@",
		"a@)", "a@;", "a @b", "1 @2", "1@'a'", "'a' @'b'", "'a'@x'00'", "(a@,b)", "a.b@.c", "1@.a", "1@.5", "'a'@.b", "a.b@(1)", "1@(a)", "(a)@(b)", "(a)@.b", "count(1)@(2)", "count(*)@.a", "count(1) @a",
		"a @as b", "a @asc", "a @,b", "a @from t", "a @to b", "a @where", "a @in b", "a @between 1 and 2", "a @null", "a @not null", "a @not like b",

		// What nothing begins with.
		"@)", "(@)", "@,", "@;", "@=", "@*", "@.", "@.a", "@+a", "@||a", "@and a", "@or", "@like a", "@is null", "@* from t", "-@+a", "a+@+b", "a*@/b", "a||@||b", "a.@1", "a.@.b", "a.@*", "a.@(1)", "a.@'b'",

		// Levels below that at which they stand.
		"a-@not b", "-@not a", "a=@not b", "a+@not b", "a||@not b", "a like @not b", "(-@not a)", "not @and", "not @=a", "not@)",
		"a=b@=c", "a<b@>c", "a=b@<>c", "a=b @like c", "a like b @like c", "a like b@<=c", "a=b @is null", "a is null @is null", "a is null @= b", "a is null@+1", "a is null@||b", "a is not null @is not null", "a is null @like b",
		"a=@=b", "a<@", "a is @5", "a is @a", "a is @is null", "a is @(null)", "a is not @5", "a is not @not null", "a is not @(null)",
		"a or @or b", "a or @and b", "a and @or b", "a and @and b", "a and@)", "a or@)",

		// Arguments.
		"count(@)", "f(@)", "length(@)", "count(*@*)", "count(*@,a)", "count(*@.a)", "count(*@+1)", "count(a,@)", "count(a,@*)", "count(@,a)", "count(a @b)", "count(a@;)", "overlaps(a,b,c,@)", "sum(@distinct a)", "sum(a @as b)", "sum((a)@", "sum((a@,b))",
	} {
		s, at := marked(s)
		refusesExpr(t, s, at, api.ErrSyntax)
	}
	for _, s := range reserved() {
		switch s {
		case "not":
			refusesExpr(t, s, len(s), api.ErrSyntax)
		case "null":
		default:
			refusesExpr(t, s, 0, api.ErrSyntax)
			refusesExpr(t, s+"(1)", 0, api.ErrSyntax)
		}
		refusesExpr(t, "a+(t."+strings.ToUpper(s)+")", 5, api.ErrSyntax)
		refusesExpr(t, "t."+s+" = 1", 2, api.ErrSyntax)
	}
}

// TestP21_1Tokens has the faults of the tokens, which come ahead of all others.
func TestP21_1Tokens(t *testing.T) {
	for _, c := range []struct {
		s    string
		at   int
		code api.Errno
	}{
		{"a b ! c", 4, api.ErrSyntax}, {") 'a", 2, api.ErrSyntax}, {"f(1) 99999999999999999999", 5, api.ErrOver}, {"a b 1c", 4, api.ErrSyntax}, {"a x'0'", 2, api.ErrSyntax}, {"1 " + strings.Repeat("a", 21), 2, api.ErrSyntax}, {"a b \xff", 0, api.ErrForm}, {strings.Repeat("a ", 2048) + " ", 0, api.ErrLong}, {strings.Repeat("-", 30) + "a #", 32, api.ErrSyntax},
	} {
		refusesExpr(t, c.s, c.at, c.code)
		refuses(t, c.s, c.at, c.code)
	}
}

// TestP21_1Counts has each name with each number of arguments: the error is at the name, but not before the closing parenthesis.
func TestP21_1Counts(t *testing.T) {
	names := words{"count", "sum", "min", "max", "overlaps", "contains", "length", "avg", "f", "a", "all", "counts", "coun", "_", "system", strings.Repeat("a", 20)}
	for _, name := range names {
		for count := range 8 {
			arguments := strings.Join(slices.Repeat(words{"1"}, count), ", ")
			if count == 0 {
				arguments = "*"
			}
			front := "a + " + name + " ( " + arguments
			if slices.Contains(counts(name), count) {
				want := bin(column("a"), "+", call(name, slices.Repeat(exprs{number(1)}, count)...))
				if e := readExpr(t, front+")"); !syntax.Same(e, want) {
					t.Errorf("ReadExpr(%s)) = %v", front, e)
				}
				refusesExpr(t, front+") )", len(front)+2, api.ErrSyntax)
				continue
			}
			// What follows the parenthesis does not matter, and what precedes it does.
			refusesExpr(t, front+")", 4, api.ErrSyntax)
			refusesExpr(t, front+") )", 4, api.ErrSyntax)
			refusesExpr(t, "("+front+")", 5, api.ErrSyntax)
			refusesExpr(t, front, len(front), api.ErrSyntax)
			refusesExpr(t, front+" 2)", len(front)+1, api.ErrSyntax)
			refusesExpr(t, front+" =)", len(front)+1+min(count, 1), api.ErrSyntax)
		}
	}
	// The one that is closed first.
	for _, s := range []string{"f(@g(1))", "f(1, @g(1), h(2))", "@f(1) + g(1)", "f(count(*), @sum(1, 2)) + (", "count(@f(1)) + 1)", "length(1, @length(*))", "@f(count(1))", "@length(length(1), length(2))"} {
		s, at := marked(s)
		refusesExpr(t, s, at, api.ErrSyntax)
	}
	refusesExpr(t, "f("+strings.Repeat("1,", 2045)+"1)", 0, api.ErrSyntax)
}

// TestP21_1Memory holds that results share no memory.
func TestP21_1Memory(t *testing.T) {
	for _, s := range []string{"a + b", "overlaps(a, b, c, d)", "not (a is null)", "count(a)"} {
		one, two := readExpr(t, s), readExpr(t, s)
		for i := range one.Args {
			one.Args[i] = number(int64(i))
		}
		if !syntax.Same(two, readExpr(t, s)) {
			t.Errorf("%s changed with another one", s)
		}
	}
}
