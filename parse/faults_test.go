package parse_test

import (
	"slices"
	"strings"
	"testing"

	"hindsight/api"
	"hindsight/parse"
)

// found is an error of an expression: the index of its sign, word or name, and that of the word behind its last part.
type found struct {
	at, end int
	code    api.Errno
}

// faults are the errors in the expression that l[from:to] is, in the order in which they are found, and its depth, by the definition: each level is cut at its last operator.
func faults(l words, from, to int) ([]found, int) {
	for _, ops := range []words{{"or"}, {"and"}} {
		if at := last(l, from, to, ops); at >= 0 {
			return around(l, from, at, at+1, to)
		}
	}
	if l[from] == "not" {
		return around(l, from+1, from, from+1, to)
	}
	if at := last(l, from, to, words{"is"}); at >= 0 {
		inner, depth := faults(l, from, at)
		return grown(inner, found{at: at, end: to}, depth+1)
	}
	for _, ops := range []words{{"=", "<>", "<", "<=", ">", ">=", "like"}, {"||"}, {"+", "-"}, {"*", "/", "%"}} {
		if at := last(l, from, to, ops); at >= 0 {
			return around(l, from, at, at+1, to)
		}
	}
	switch {
	case l[from] == "-":
		return around(l, from+1, from, from+1, to)
	case l[from] == "(":
		return faults(l, from+1, to-1)
	case l[to-1] == ")":
		return calls(l, from, to)
	}
	return nil, 1
}

// last is the index of the last of these operators in l[from:to] that is in no parentheses and has something at its left; -1 if there is none.
func last(l words, from, to int, ops words) int {
	open, at := 0, -1
	for i := from; i < to; i++ {
		switch l[i] {
		case "(":
			open++
		case ")":
			open--
		}
		if open > 0 || i == from || !slices.Contains(ops, l[i]) {
			continue
		}
		if w := l[i-1]; w == ")" || w == "null" || stands("NAME", w) || stands("VALUE", w) {
			at = i
		}
	}
	return at
}

// around is faults for the operator at that index, between what is at its left, unless that is nothing, and what is at its right.
func around(l words, from, at, right, to int) ([]found, int) {
	var inner []found
	depth := 0
	if from < at {
		inner, depth = faults(l, from, at)
	}
	more, deeper := faults(l, right, to)
	return grown(append(inner, more...), found{at: at, end: to}, max(depth, deeper)+1)
}

// grown is the errors with that of an expression of that depth, if it is too deep.
func grown(inner []found, own found, depth int) ([]found, int) {
	if depth > api.MaxDeep && own.code == api.OK {
		own.code = api.ErrDeep
	}
	if own.code != api.OK {
		inner = append(inner, own)
	}
	return inner, depth
}

// calls is faults for a call.
func calls(l words, from, to int) ([]found, int) {
	var inner []found
	depth, count, open, start := 0, 0, 0, from+2
	for i := from + 2; i < to; i++ {
		switch {
		case l[i] == "(":
			open++
		case open > 0 && l[i] == ")":
			open--
		case open == 0 && l[start] != "*" && (l[i] == "," || l[i] == ")"):
			more, deep := faults(l, start, i)
			inner, depth, count, start = append(inner, more...), max(depth, deep), count+1, i+1
		}
	}
	own := found{at: from, end: to}
	if !slices.Contains(counts(l[from]), count) {
		own.code = api.ErrSyntax
	}
	return grown(inner, own, depth+1)
}

// grownBy is e, deeper by one.
func (c *chance) grownBy(e expr) expr {
	other := c.expr(1 + c.below(2))
	switch c.below(8) {
	case 0:
		return un(c.of(words{"-", "not"}), e)
	case 1:
		return isNull(e, c.of(words{"is null", "is not null"}))
	case 2:
		return call(c.of(words{"count", "max", "length"}), e)
	case 3:
		return call(c.of(words{"overlaps", "contains"}), other, null(), e, other)
	case 4, 5:
		return bin(e, c.of(strings.Fields("or and = like || + - * / %")), other)
	}
	return bin(other, c.of(strings.Fields("or and < >= || + - * / %")), e)
}

// TestP21_1FaultsByDefinition has expressions by chance, many of them too deep or with calls that there are not.
func TestP21_1FaultsByDefinition(t *testing.T) {
	next := chance(13)
	seen := map[api.Errno]int{}
	for range 6000 {
		e := un("-", next.expr(2))
		for range 12 + next.below(14) {
			e = next.grownBy(e)
		}
		l := next.show(e, 0)
		if next.below(4) == 0 {
			spoil(l, &next)
		}
		s, at := next.laid(l)
		if len(s) > 4096 {
			continue
		}
		all, _ := faults(l, 0, len(l))
		want := api.Fault{}
		if len(all) > 0 {
			want = api.Fault{At: at[all[0].at], Code: all[0].code}
		}
		seen[want.Code]++
		if _, f := parse.ReadExpr(s); f != want {
			t.Fatalf("ReadExpr(%s) = %v, want %v", s, f, want)
		}
		for i := 1; i < len(all); i++ {
			if all[i].end < all[i-1].end {
				t.Fatalf("%s: errors out of order: %v", s, all)
			}
		}
	}
	if seen[api.OK] < 300 || seen[api.ErrDeep] < 300 || seen[api.ErrSyntax] < 100 {
		t.Errorf("seen: %v", seen)
	}
}

// spoil gives some names of calls other letters.
func spoil(l words, next *chance) {
	for i := range l {
		if i+1 < len(l) && l[i+1] == "(" && counts(l[i]) != nil && next.below(4) == 0 {
			l[i] = next.of(words{"f", "length", "overlaps", "min"})
		}
	}
}
