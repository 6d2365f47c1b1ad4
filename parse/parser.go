package parse

import (
	"hindsight/api"
	"hindsight/syntax"
	"hindsight/token"
)

// parser keeps its place among the tokens of a text, the last of which is the end.
type parser struct {
	tokens []token.Token
	at     int
	fault  api.Fault
}

// front is the token at which p is.
func (p *parser) front() token.Token { return p.tokens[p.at] }

// failed reports whether there was an error.
func (p *parser) failed() bool { return p.fault.Code != api.OK }

// fail keeps the first error, and goes to the end: as nothing but an error can follow there, all methods return soon.
func (p *parser) fail(at int, code api.Errno) {
	if p.failed() {
		return
	}
	p.fault = api.Fault{At: at, Code: code}
	p.at = len(p.tokens) - 1
}

// refuse fails at the token at which p is.
func (p *parser) refuse() { p.fail(p.front().At, api.ErrSyntax) }

// is reports whether t is this word or sign.
func is(t token.Token, text string) bool {
	return (t.Kind == token.Word || t.Kind == token.Sign) && t.Text == text
}

// sees reports whether p is at this word or sign.
func (p *parser) sees(text string) bool { return is(p.front(), text) }

// take moves behind this word or sign, and reports whether p was at it.
func (p *parser) take(text string) bool {
	if !p.sees(text) {
		return false
	}
	p.at++
	return true
}

// need moves behind these words and signs, which have to follow, and reports whether they do.
func (p *parser) need(texts ...string) bool {
	for _, text := range texts {
		if !p.take(text) {
			p.refuse()
			return false
		}
	}
	return true
}

// name is the name that has to follow.
func (p *parser) name() string {
	t := p.front()
	if t.Kind != token.Word || syntax.Reserved(t.Text) {
		p.refuse()
		return ""
	}
	p.at++
	return t.Text
}

// list is one or more elements, separated by commas.
func list[T any](p *parser, element func(*parser) T) []T {
	l := []T{element(p)}
	for p.take(",") {
		l = append(l, element(p))
	}
	return l
}

// inside is a list in parentheses.
func inside[T any](p *parser, element func(*parser) T) []T {
	p.need("(")
	l := list(p, element)
	p.need(")")
	return l
}
