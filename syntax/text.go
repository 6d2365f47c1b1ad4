package syntax

import (
	"strings"

	"hindsight/api"
	"hindsight/token"
)

// Write is the text of e.
func Write(e Expr) (string, api.Errno) {
	if !Right(e) {
		return "", api.ErrForm
	}
	return text(e), api.OK
}

// text is the text of e, which is valid.
func text(e Expr) string {
	switch e.Kind {
	case Lit:
		return literal(e.Value)
	case Col:
		return column(e)
	case Un:
		return "(" + e.Op + " " + text(e.Args[0]) + ")"
	case Bin:
		return "(" + text(e.Args[0]) + " " + e.Op + " " + text(e.Args[1]) + ")"
	case Null:
		return "(" + text(e.Args[0]) + " " + e.Op + ")"
	}
	return call(e)
}

func literal(v api.Value) string {
	t := token.Token{Kind: token.Word, Text: "null"}
	switch v.Kind {
	case api.Int:
		t = token.Token{Kind: token.Number, Int: v.Int}
	case api.Text:
		t = token.Token{Kind: token.Quoted, Text: v.Text}
	case api.Blob:
		t = token.Token{Kind: token.Bytes, Text: v.Text}
	}
	return token.Write([]token.Token{t})
}

func column(e Expr) string {
	if e.Table == "" {
		return e.Name
	}
	return e.Table + "." + e.Name
}

// call is the text of an aggregate or a call.
func call(e Expr) string {
	if len(e.Args) == 0 {
		return e.Op + "(*)"
	}
	var args []string
	for _, x := range e.Args {
		args = append(args, text(x))
	}
	return e.Op + "(" + strings.Join(args, ", ") + ")"
}
