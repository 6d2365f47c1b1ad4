package eval_test

import (
	"math/big"
	"slices"
	"strings"
	"unicode/utf8"

	"hindsight/api"
	"hindsight/like"
)

// takes is the table of the operations: whether there is one of that kind with so many arguments.
func takes(kind int, op string, count int) bool {
	words := map[[2]int]string{
		{3, 1}: "-;not", {4, 2}: "or;and;=;<>;<;<=;>;>=;like;||;+;-;*;/;%", {5, 1}: "is null;is not null", {6, 0}: "count", {6, 1}: "count;sum;min;max", {7, 1}: "length", {7, 4}: "overlaps;contains",
	}
	l, some := words[[2]int{kind, count}]
	return some && slices.Contains(strings.Split(l, ";"), op)
}

// right reports whether a value is valid.
func right(v value) bool {
	return v == value{} || v == number(v.Int) || v == text(v.Text) || v == blob(v.Text)
}

// expected is the value of n by the chapter's definition.
func expected(n node, row values) (value, api.Errno) {
	switch {
	case n.Kind == 1 && !right(n.Value):
		return value{}, api.ErrForm
	case n.Kind == 1:
		return n.Value, api.OK
	case n.Kind == 2 && (n.Slot < 0 || n.Slot >= len(row)):
		return value{}, api.ErrColumn
	case n.Kind == 2 && !right(row[n.Slot]):
		return value{}, api.ErrForm
	case n.Kind == 2:
		return row[n.Slot], api.OK
	case n.Kind == 6 || !takes(n.Kind, n.Op, len(n.Args)):
		return value{}, api.ErrForm
	}
	var args values
	for _, x := range n.Args {
		v, code := expected(x, row)
		if code != api.OK {
			return value{}, code
		}
		args = append(args, v)
	}
	return applied(n, args)
}

// applied is what an operation makes of values.
func applied(n node, args values) (value, api.Errno) {
	null := slices.Contains(args, value{})
	switch n.Op {
	case "is null":
		return truth(null), api.OK
	case "is not null":
		return truth(!null), api.OK
	case "length":
		return long(args[0])
	case "overlaps", "contains":
		return spans(n.Op, args)
	case "not", "and", "or":
		return logic(n.Op, args)
	case "=", "<>", "<", "<=", ">", ">=":
		return held(n.Op, args[0], args[1])
	case "like":
		return likeness(args[0], args[1])
	case "||":
		a, b := args[0], args[1]
		if !null && (a.Kind < 2 || a.Kind != b.Kind) {
			return value{}, api.ErrType
		}
		if null {
			return value{}, api.OK
		}
		return value{Kind: a.Kind, Text: a.Text + b.Text}, api.OK
	}
	if n.Kind == 3 {
		args = values{number(0), args[0]}
	}
	return arithmetic(n.Op, args)
}

func truth(b bool) value {
	if b {
		return number(1)
	}
	return number(0)
}

// strange reports whether there is a text or a blob among l.
func strange(l values) bool {
	return slices.ContainsFunc(l, func(v value) bool { return v.Kind > 1 })
}

func long(v value) (value, api.Errno) {
	switch {
	case v.Kind == 0:
		return value{}, api.OK
	case v.Kind == 1:
		return value{}, api.ErrType
	case v.Kind == 3:
		return number(int64(len(v.Text))), api.OK
	case !utf8.ValidString(v.Text):
		return value{}, api.ErrForm
	}
	return number(int64(len([]rune(v.Text)))), api.OK
}

func spans(op string, l values) (value, api.Errno) {
	a, b, c, d := l[0].Int, l[1].Int, l[2].Int, l[3].Int
	switch {
	case strange(l):
		return value{}, api.ErrType
	case slices.Contains(l, value{}):
		return value{}, api.OK
	case a >= b || c >= d:
		return value{}, api.ErrEmpty
	case op == "overlaps":
		return truth(a < d && c < b), api.OK
	}
	return truth(a <= c && d <= b), api.OK
}

// logic has 0 for false, 1 for unknown and 2 for true.
func logic(op string, l values) (value, api.Errno) {
	if strange(l) {
		return value{}, api.ErrType
	}
	var known []int
	for _, v := range l {
		switch v {
		case value{}:
			known = append(known, 1)
		case number(0):
			known = append(known, 0)
		default:
			known = append(known, 2)
		}
	}
	result := 2 - known[0]
	switch op {
	case "and":
		result = slices.Min(known)
	case "or":
		result = slices.Max(known)
	}
	return []value{number(0), {}, number(1)}[result], api.OK
}

func held(op string, a, b value) (value, api.Errno) {
	if a.Kind == 0 || b.Kind == 0 {
		return value{}, api.OK
	}
	if a.Kind != b.Kind {
		return value{}, api.ErrType
	}
	less, same := a.Int < b.Int || a.Text < b.Text, a == b
	return truth(op == "<" && less || op == ">" && !less && !same || op == "=" && same || op == "<=" && (less || same) || op == ">=" && !less || op == "<>" && !same), api.OK
}

func likeness(a, b value) (value, api.Errno) {
	if a.Kind == 0 || b.Kind == 0 {
		return value{}, api.OK
	}
	if a.Kind != 2 || b.Kind != 2 {
		return value{}, api.ErrType
	}
	is, code := like.Match(b.Text, a.Text)
	if code != api.OK {
		return value{}, code
	}
	return truth(is), api.OK
}

func arithmetic(op string, l values) (value, api.Errno) {
	if strange(l) {
		return value{}, api.ErrType
	}
	if slices.Contains(l, value{}) {
		return value{}, api.OK
	}
	x, y, z := big.NewInt(l[0].Int), big.NewInt(l[1].Int), new(big.Int)
	switch {
	case op == "+":
		z.Add(x, y)
	case op == "-":
		z.Sub(x, y)
	case op == "*":
		z.Mul(x, y)
	case y.Sign() == 0:
		return value{}, api.ErrZero
	case op == "/":
		z.Quo(x, y)
	case op == "%":
		z.Rem(x, y)
	}
	if !z.IsInt64() {
		return value{}, api.ErrOver
	}
	return number(z.Int64()), api.OK
}
