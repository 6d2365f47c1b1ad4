package parse

import (
	"slices"

	"hindsight/api"
	"hindsight/syntax"
	"hindsight/token"
)

// expr is an expression; the methods behind it are the levels of its grammar, each in terms of the next one.
func (p *parser) expr() syntax.Expr { return p.chain(p.and, "or") }

func (p *parser) and() syntax.Expr { return p.chain(p.not, "and") }

func (p *parser) not() syntax.Expr {
	at := p.front().At
	if p.take("not") {
		return p.made(at, syntax.Un, "not", p.not())
	}
	return p.compare()
}

func (p *parser) compare() syntax.Expr {
	left := p.cat()
	sign := p.front()
	if p.take("is") {
		return p.made(sign.At, syntax.Null, p.null(), left)
	}
	if !compares(sign) {
		return left
	}
	p.at++
	return p.made(sign.At, syntax.Bin, sign.Text, left, p.cat())
}

// null is the operation that is does.
func (p *parser) null() string {
	op := "is null"
	if p.take("not") {
		op = "is not null"
	}
	p.need("null")
	return op
}

// compares reports whether t compares what is on its two sides.
func compares(t token.Token) bool {
	return slices.ContainsFunc([]string{"=", "<>", "<", "<=", ">", ">=", "like"}, func(op string) bool { return is(t, op) })
}

func (p *parser) cat() syntax.Expr { return p.chain(p.sum, "||") }

func (p *parser) sum() syntax.Expr { return p.chain(p.product, "+", "-") }

func (p *parser) product() syntax.Expr { return p.chain(p.negative, "*", "/", "%") }

func (p *parser) negative() syntax.Expr {
	at := p.front().At
	if p.take("-") {
		return p.made(at, syntax.Un, "-", p.negative())
	}
	return p.prime()
}

func (p *parser) prime() syntax.Expr {
	t := p.front()
	if v, some := literal(t); some {
		p.at++
		return syntax.Expr{Kind: syntax.Lit, Value: v}
	}
	if p.take("(") {
		e := p.expr()
		p.need(")")
		return e
	}
	name := p.name()
	if p.sees("(") {
		return p.call(t.At, name)
	}
	if p.take(".") {
		return syntax.Expr{Kind: syntax.Col, Table: name, Name: p.name()}
	}
	return syntax.Expr{Kind: syntax.Col, Name: name}
}

// literal is the value of t, and whether it has one.
func literal(t token.Token) (api.Value, bool) {
	switch t.Kind {
	case token.Number:
		return api.Value{Kind: api.Int, Int: t.Int}, true
	case token.Quoted:
		return api.Value{Kind: api.Text, Text: t.Text}, true
	case token.Bytes:
		return api.Value{Kind: api.Blob, Text: t.Text}, true
	}
	return api.Value{}, is(t, "null")
}

// call is the aggregate or the call with that name, which was at that offset.
func (p *parser) call(at int, name string) syntax.Expr {
	args := p.arguments()
	kind, some := called(name, len(args))
	if !some {
		p.fail(at, api.ErrSyntax)
	}
	return p.made(at, kind, name, args...)
}

// arguments are those of a call: none for a star.
func (p *parser) arguments() []syntax.Expr {
	p.need("(")
	var args []syntax.Expr
	if !p.take("*") {
		args = list(p, (*parser).expr)
	}
	p.need(")")
	return args
}

// called is the kind of the expressions with that name and so many arguments, and whether there are any.
func called(name string, count int) (int, bool) {
	args := make([]syntax.Expr, count)
	for i := range args {
		args[i].Kind = syntax.Lit
	}
	for _, kind := range []int{syntax.Agg, syntax.Call} {
		if syntax.Right(syntax.Expr{Kind: kind, Op: name, Args: args}) {
			return kind, true
		}
	}
	return 0, false
}

// chain is one or more elements, separated by operators and associated to the left.
func (p *parser) chain(element func() syntax.Expr, ops ...string) syntax.Expr {
	e := element()
	for {
		sign := p.front()
		if !slices.ContainsFunc(ops, p.take) {
			return e
		}
		e = p.made(sign.At, syntax.Bin, sign.Text, e, element())
	}
}

// made is the expression with these arguments, whose sign, word or name was at that offset.
func (p *parser) made(at, kind int, op string, args ...syntax.Expr) syntax.Expr {
	e := syntax.Expr{Kind: kind, Op: op, Args: args}
	if syntax.Deep(e) > api.MaxDeep {
		p.fail(at, api.ErrDeep)
	}
	return e
}
