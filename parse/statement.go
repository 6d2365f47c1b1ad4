package parse

import (
	"hindsight/api"
	"hindsight/syntax"
)

// statement is a statement, without the ; at its end.
func (p *parser) statement() Statement {
	switch {
	case p.take("create"):
		return p.create()
	case p.take("drop"):
		p.need("table")
		return Statement{Kind: Drop, Name: p.name()}
	case p.take("insert"):
		return p.insert()
	case p.take("update"):
		return p.update()
	case p.take("delete"):
		return p.delete()
	case p.take("select"):
		return p.query()
	case p.take("prune"):
		return p.prune()
	}
	return p.transaction()
}

// transaction is a statement about transactions and savepoints.
func (p *parser) transaction() Statement {
	switch {
	case p.take("begin"):
		return Statement{Kind: Begin}
	case p.take("commit"):
		return Statement{Kind: Commit}
	case p.take("rollback"):
		if p.take("to") {
			return Statement{Kind: Back, Name: p.name()}
		}
		return Statement{Kind: Rollback}
	case p.take("savepoint"):
		return Statement{Kind: Save, Name: p.name()}
	case p.take("release"):
		return Statement{Kind: Release, Name: p.name()}
	}
	p.refuse()
	return Statement{}
}

// The methods below are what is behind the first word of a statement.

func (p *parser) create() Statement {
	if p.take("index") {
		return p.index()
	}
	p.need("table")
	x := Statement{Kind: Create, Name: p.name()}
	p.need("(")
	x.Columns = p.columns()
	p.need("key")
	x.Key = inside(p, (*parser).name)
	if p.take(",") {
		p.period(&x)
	}
	p.need(")")
	x.Versioned = p.take("versioned")
	return x
}

// columns are those of a table, with the word behind them.
func (p *parser) columns() []Column {
	l := []Column{p.column()}
	for p.need(",") && !p.take("primary") {
		l = append(l, p.column())
	}
	return l
}

func (p *parser) column() Column {
	c := Column{Name: p.name()}
	switch {
	case p.take("int"):
		c.Type = api.Int
	case p.take("text"):
		c.Type = api.Text
	case p.take("blob"):
		c.Type = api.Blob
	default:
		p.refuse()
	}
	if p.take("not") {
		c.NotNull = p.need("null")
	}
	return c
}

// period is the application period of the table x.
func (p *parser) period(x *Statement) {
	p.need("period")
	x.Period = p.name()
	p.need("(")
	x.From = p.name()
	p.need(",")
	x.To = p.name()
	p.need(")")
	if p.take(",") {
		x.Apart = p.need("without", "overlaps")
	}
}

func (p *parser) index() Statement {
	x := Statement{Kind: Index, Index: p.name()}
	p.need("on")
	x.Name = p.name()
	p.need("(")
	x.Column = p.name()
	p.need(")")
	return x
}

func (p *parser) insert() Statement {
	p.need("into")
	x := Statement{Kind: Insert, Name: p.name()}
	p.need("values")
	x.Rows = list(p, (*parser).row)
	return x
}

func (p *parser) row() []syntax.Expr { return inside(p, (*parser).expr) }

func (p *parser) update() Statement {
	x := Statement{Kind: Update, Name: p.name()}
	p.portion(&x)
	p.need("set")
	x.Sets = list(p, (*parser).set)
	x.Where = p.optional("where")
	return x
}

func (p *parser) set() Set {
	s := Set{Name: p.name()}
	p.need("=")
	s.E = p.expr()
	return s
}

func (p *parser) delete() Statement {
	p.need("from")
	x := Statement{Kind: Delete, Name: p.name()}
	p.portion(&x)
	x.Where = p.optional("where")
	return x
}

// portion is the portion, if there is one, to which the change x is restricted.
func (p *parser) portion(x *Statement) {
	if !p.take("for") {
		return
	}
	p.need("portion", "of")
	x.Period = p.name()
	p.need("from")
	x.PFrom = p.expr()
	p.need("to")
	x.PTo = p.expr()
}

func (p *parser) prune() Statement {
	x := Statement{Kind: Prune, Name: p.name()}
	p.need("to")
	x.PTo = p.expr()
	return x
}

// optional is the expression behind that word, if the word follows.
func (p *parser) optional(word string) syntax.Expr {
	if !p.take(word) {
		return syntax.Expr{}
	}
	return p.expr()
}
