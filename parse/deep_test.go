package parse_test

import (
	"strings"
	"testing"

	"hindsight/api"
	"hindsight/syntax"
)

// ladder is a way to make an expression deeper by one.
type ladder struct {
	front, back string
	// Where in them the sign, word or name is.
	sign func(front, inner string) int
	make func(e expr) expr
}

func atFront(front, _ string) int      { return len(front) - len(strings.TrimLeft(front, "(")) }
func behind(front, inner string) int   { return len(front) + len(inner) + 1 }
func oneAhead(front, inner string) int { return len(front) + len(inner) }

func ladders() []ladder {
	a := column("a")
	return []ladder{
		{"-", "", atFront, func(e expr) expr { return un("-", e) }},
		{"not ", "", atFront, func(e expr) expr { return un("not", e) }},
		{"(not ", ")", atFront, func(e expr) expr { return un("not", e) }},
		{"(a or ", ")", func(front, _ string) int { return 3 }, func(e expr) expr { return bin(a, "or", e) }},
		{"", "+a", oneAhead, func(e expr) expr { return bin(e, "+", a) }},
		{"", " and a", behind, func(e expr) expr { return bin(e, "and", a) }},
		{"(", " like a)", behind, func(e expr) expr { return bin(e, "like", a) }},
		{"((", ")||a)", func(front, inner string) int { return len(front) + len(inner) + 1 }, func(e expr) expr { return bin(e, "||", a) }},
		{"(", " is null)", behind, func(e expr) expr { return isNull(e, "is null") }},
		{"(", " is not null)", behind, func(e expr) expr { return isNull(e, "is not null") }},
		{"count(", ")", atFront, func(e expr) expr { return call("count", e) }},
		{"length((", "))", atFront, func(e expr) expr { return call("length", e) }},
		{"contains(a,a,", ",a)", atFront, func(e expr) expr { return call("contains", a, a, e, a) }},
	}
}

// climb is the text of an expression of that depth, where its last sign, word or name is, and the expression.
func (l ladder) climb(depth int) (string, int, expr) {
	s, at, e := "a", 0, column("a")
	for range depth - 1 {
		at = l.sign(l.front, s)
		s = l.front + s + l.back
		e = l.make(e)
	}
	return s, at, e
}

// TestP21_1Deep has expressions of just the greatest depth, and deeper ones.
func TestP21_1Deep(t *testing.T) {
	for _, l := range ladders() {
		s, _, want := l.climb(api.MaxDeep)
		if e := readExpr(t, s); !syntax.Same(e, want) {
			t.Errorf("ReadExpr(%s) = %v", s, e)
		}
		if e := readExpr(t, "(("+s+"))"); !syntax.Same(e, want) {
			t.Errorf("ReadExpr(((%s))) = %v", s, e)
		}
		s, at, _ := l.climb(api.MaxDeep + 1)
		refusesExpr(t, s, at, api.ErrDeep)
		refusesExpr(t, "("+s+")", at+1, api.ErrDeep)
		refusesExpr(t, "1 * ("+s+")", at+5, api.ErrDeep)
		refusesExpr(t, "a = a or ("+s+") )", at+10, api.ErrDeep)
		refuses(t, "delete from t where "+s, at+20, api.ErrDeep)
		// A deeper one has the error of the first part that is too deep.
		for more := 2; more < 40; more++ {
			deeper, _, _ := l.climb(api.MaxDeep + more)
			before := strings.Index(deeper, s)
			if l.front == "-" || l.front == "not " {
				before = len(deeper) - len(s)
			}
			refusesExpr(t, deeper, before+at, api.ErrDeep)
		}
	}
}

// TestP21_1DeepFirst has several errors at once: the one found first in reading order counts.
func TestP21_1DeepFirst(t *testing.T) {
	deep := strings.Repeat("-", 20) + "a"
	nearly := deep[1:]
	for _, c := range []struct {
		s    string
		code api.Errno
	}{
		// Nothing is too deep before its last part, and all of that is read first.
		{"@" + deep, api.ErrDeep},
		{deep[:20] + "@", api.ErrSyntax},
		{deep[:20] + "(a@", api.ErrSyntax},
		{deep[:20] + "(a @b)", api.ErrSyntax},
		{deep[:20] + "@f(a)", api.ErrSyntax},
		{"@" + deep + ")", api.ErrDeep},
		{"@" + deep + " b", api.ErrDeep},
		{"(@" + deep, api.ErrDeep},
		{"@" + deep + " + f(1)", api.ErrDeep},
		{"@f(1) + " + deep, api.ErrSyntax},
		{"f(@" + deep + ")", api.ErrDeep},
		{"f(b, @" + deep, api.ErrDeep},
		{"b@) " + deep, api.ErrSyntax},
		{nearly + " @+ b", api.ErrDeep},
		{nearly + " + @", api.ErrSyntax},
		{nearly + " + @)", api.ErrSyntax},
		{nearly + " + @f(1)", api.ErrSyntax},
		{nearly + " @+ b)", api.ErrDeep},
		{nearly + " @+ b b", api.ErrDeep},
		{nearly + " @+ count(*) + f(1)", api.ErrDeep},
		{"b @or " + nearly + " b", api.ErrDeep},
		{nearly + " @is null", api.ErrDeep},
		{nearly + " is @b", api.ErrSyntax},
		{nearly + " is not @b", api.ErrSyntax},
		{nearly + " @is not null b", api.ErrDeep},
		{"@length(" + nearly + ")", api.ErrDeep},
		{"length(" + nearly + "@", api.ErrSyntax},
		{"length(" + nearly + " @b)", api.ErrSyntax},
		{"length(" + nearly + ",@)", api.ErrSyntax},
		// One that there is not, and that would be too deep.
		{"@length(" + nearly + ", b)", api.ErrSyntax},
		{"@f(" + nearly + ")", api.ErrSyntax},
		{"contains(" + nearly + ", @" + deep + ", c)", api.ErrDeep},
		// The one inside first, and the one at the left.
		{"-@" + deep, api.ErrDeep},
		{"-(-(@" + deep + "))", api.ErrDeep},
		{"@" + deep + " + " + deep, api.ErrDeep},
		{"a + @" + deep + " + " + deep, api.ErrDeep},
		{nearly + " @+ a * " + nearly[1:], api.ErrDeep},
		{nearly + " + a @* " + nearly, api.ErrDeep},
		{"(" + nearly + ") @= (" + nearly + ")", api.ErrDeep},
	} {
		s, at := marked(c.s)
		refusesExpr(t, s, at, c.code)
	}
}

// TestP21_1Nested has texts as long as they can be, and nested as much as they can be.
func TestP21_1Nested(t *testing.T) {
	n := 2047
	if e := readExpr(t, strings.Repeat("(", n)+"a"+strings.Repeat(")", n)); !syntax.Same(e, column("a")) {
		t.Errorf("%d parentheses: %v", n, e)
	}
	refusesExpr(t, strings.Repeat("(", 4096), 4096, api.ErrSyntax)
	refusesExpr(t, strings.Repeat("-", 4096), 4096, api.ErrSyntax)
	refusesExpr(t, strings.Repeat("-", 4095)+"a", 4095-20, api.ErrDeep)
	refusesExpr(t, strings.Repeat("not ", 1023)+"a", 1022*4-19*4, api.ErrDeep)
	refusesExpr(t, strings.Repeat("length(", 585)+")", 4095, api.ErrSyntax)
	refusesExpr(t, strings.Repeat("count(", 585)+"a"+strings.Repeat(")", 585), 585*6-20*6, api.ErrDeep)
	refusesExpr(t, "a"+strings.Repeat("+a", 2047), 2*19+1, api.ErrDeep)
	refusesExpr(t, "a"+strings.Repeat(" or a", 500), 19*5+2, api.ErrDeep)
	refusesExpr(t, strings.Repeat("f(", 1365)+"a"+strings.Repeat(")", 1365), 2*1364, api.ErrSyntax)
}
