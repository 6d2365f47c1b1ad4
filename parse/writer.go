package parse

import (
	"strings"

	"hindsight/api"
	"hindsight/syntax"
)

// writer collects the words, names, signs and expressions of a statement.
type writer struct {
	parts []string
	wrong bool
}

func (w *writer) add(parts ...string) { w.parts = append(w.parts, parts...) }

// text is the text of what was collected.
func (w *writer) text() string {
	if w.wrong {
		return ""
	}
	var b strings.Builder
	for i, part := range w.parts {
		if i > 0 && w.parts[i-1] != "(" && part != "," && part != ")" {
			b.WriteByte(' ')
		}
		b.WriteString(part)
	}
	return b.String()
}

// commas adds a list, its elements separated by commas.
func commas[T any](w *writer, l []T, element func(x T)) {
	for i, x := range l {
		if i > 0 {
			w.add(",")
		}
		element(x)
	}
}

// inParentheses adds a list as commas does, in parentheses.
func inParentheses[T any](w *writer, l []T, element func(x T)) {
	w.add("(")
	commas(w, l, element)
	w.add(")")
}

func (w *writer) name(s string) { w.add(s) }

func (w *writer) expr(e syntax.Expr) {
	s, err := syntax.Write(e)
	w.wrong = w.wrong || err != api.OK
	w.add(s)
}

// optional adds the word and the expression, if there is one.
func (w *writer) optional(word string, e syntax.Expr) {
	if e.Kind != 0 {
		w.add(word)
		w.expr(e)
	}
}
