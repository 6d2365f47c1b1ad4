package syntax

// visit calls do for e and for what is in it, in order, but not for what is inside an expression for which do returns false. It visits nothing if e is not valid or too deep.
func visit(e Expr, do func(x Expr) bool) {
	if Right(e) {
		descend(e, do)
	}
}

func descend(e Expr, do func(x Expr) bool) {
	if !do(e) {
		return
	}
	for _, x := range e.Args {
		descend(x, do)
	}
}

// clone is e in memory of its own.
func clone(e Expr) Expr {
	var args []Expr
	for _, x := range e.Args {
		args = append(args, clone(x))
	}
	e.Args = args
	return e
}
