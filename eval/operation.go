package eval

import (
	"hindsight/api"
	"hindsight/cell"
	"hindsight/like"
	"hindsight/syntax"
	"hindsight/typing"
)

// operation is what makes a value of the values of arguments, all of them valid.
type operation func(args []api.Value) (api.Value, api.Errno)

// operationOf is the operation of n; nil if there is none of that name with so many arguments.
func operationOf(n typing.Node) operation {
	switch count := len(n.Args); {
	case n.Kind == syntax.Un && count == 1:
		return unary(n.Op)
	case n.Kind == syntax.Bin && count == 2:
		return binary(n.Op)
	case n.Kind == syntax.Null && count == 1:
		return nullness(n.Op)
	case n.Kind == syntax.Call:
		return called(n.Op, count)
	}
	return nil
}

func unary(op string) operation {
	switch op {
	case "-":
		return one(cell.Neg)
	case "not":
		return one(cell.Not)
	}
	return nil
}

func binary(op string) operation {
	switch op {
	case "or":
		return two(cell.Or)
	case "and":
		return two(cell.And)
	case "like":
		return two(likeness)
	case "||":
		return two(cell.Join)
	case "+":
		return two(cell.Add)
	case "-":
		return two(cell.Sub)
	case "*":
		return two(cell.Mul)
	case "/":
		return two(cell.Div)
	case "%":
		return two(cell.Mod)
	}
	return comparison(op)
}

func comparison(op string) operation {
	switch op {
	case "=":
		return compared(func(order int) bool { return order == 0 })
	case "<>":
		return compared(func(order int) bool { return order != 0 })
	case "<":
		return compared(func(order int) bool { return order < 0 })
	case "<=":
		return compared(func(order int) bool { return order <= 0 })
	case ">":
		return compared(func(order int) bool { return order > 0 })
	case ">=":
		return compared(func(order int) bool { return order >= 0 })
	}
	return nil
}

func nullness(op string) operation {
	switch op {
	case "is null":
		return one(func(a api.Value) (api.Value, api.Errno) { return cell.Bool(isNull(a)), api.OK })
	case "is not null":
		return one(func(a api.Value) (api.Value, api.Errno) { return cell.Bool(!isNull(a)), api.OK })
	}
	return nil
}

// one is the operation of one argument.
func one(apply func(a api.Value) (api.Value, api.Errno)) operation {
	return func(args []api.Value) (api.Value, api.Errno) { return apply(args[0]) }
}

// two is the operation of two arguments.
func two(apply func(a, b api.Value) (api.Value, api.Errno)) operation {
	return func(args []api.Value) (api.Value, api.Errno) { return apply(args[0], args[1]) }
}

// compared is the operation that holds the order of two values, which is known unless one of them is null.
func compared(holds func(order int) bool) operation {
	return two(func(a, b api.Value) (api.Value, api.Errno) {
		order, known, err := cell.Compare(a, b)
		if err != api.OK || !known {
			return api.Value{}, err
		}
		return cell.Bool(holds(order)), api.OK
	})
}

// likeness tells whether a matches the pattern b.
func likeness(a, b api.Value) (api.Value, api.Errno) {
	if isNull(a) || isNull(b) {
		return api.Value{}, api.OK
	}
	if a.Kind != api.Text || b.Kind != api.Text {
		return api.Value{}, api.ErrType
	}
	is, err := like.Match(b.Text, a.Text)
	if err != api.OK {
		return api.Value{}, err
	}
	return cell.Bool(is), api.OK
}

// isNull reports whether v, which is valid, is null.
func isNull(v api.Value) bool { return v.Kind == api.Null }
