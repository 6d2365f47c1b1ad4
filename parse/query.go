package parse

// query is what is behind the first word of a select.
func (p *parser) query() Statement {
	x := Statement{Kind: Select, Distinct: p.take("distinct")}
	if !p.take("*") {
		x.Items = list(p, (*parser).item)
	}
	p.need("from")
	x.Sources = p.sources()
	x.Where = p.optional("where")
	if p.take("group") {
		p.need("by")
		x.Group = list(p, (*parser).expr)
	}
	if p.take("order") {
		p.need("by")
		x.Order = list(p, (*parser).sort)
	}
	x.Limit = p.optional("limit")
	return x
}

func (p *parser) item() Item { return Item{E: p.expr(), As: p.alias()} }

// alias is the name behind as, if there is one.
func (p *parser) alias() string {
	if !p.take("as") {
		return ""
	}
	return p.name()
}

func (p *parser) sources() []Source {
	l := []Source{p.source()}
	for p.take("join") {
		s := p.source()
		p.need("on")
		s.On = p.expr()
		l = append(l, s)
	}
	return l
}

func (p *parser) source() Source {
	s := Source{Name: p.name()}
	if p.take("for") {
		p.need("system_time")
		p.view(&s)
	}
	s.As = p.alias()
	return s
}

// view is the versions of the source s that are visible.
func (p *parser) view(s *Source) {
	switch {
	case p.sees("as") && is(p.tokens[p.at+1], "of"):
		p.need("as", "of")
		s.View = asOf
		s.A = p.sum()
	case p.take("from"):
		s.View = fromTo
		s.A = p.sum()
		p.need("to")
		s.B = p.sum()
	case p.take("between"):
		s.View = between
		s.A = p.sum()
		p.need("and")
		s.B = p.sum()
	case p.take("all"):
		s.View = all
	default:
		p.refuse()
	}
}

func (p *parser) sort() Sort {
	s := Sort{E: p.expr()}
	if !p.take("asc") {
		s.Desc = p.take("desc")
	}
	return s
}
