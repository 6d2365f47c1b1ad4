package parse

import (
	"hindsight/api"
	"hindsight/syntax"
)

// Write is a text of the statement x; the empty one if its kind, or an expression in it, is not valid.
func Write(x Statement) string {
	w := &writer{}
	w.statement(x)
	return w.text()
}

func (w *writer) statement(x Statement) {
	switch x.Kind {
	case Create:
		w.create(x)
	case Drop:
		w.add("drop", "table", x.Name)
	case Index:
		w.add("create", "index", x.Index, "on", x.Name, "(", x.Column, ")")
	case Insert:
		w.add("insert", "into", x.Name, "values")
		commas(w, x.Rows, w.row)
	case Update:
		w.update(x)
	case Delete:
		w.delete(x)
	case Select:
		w.query(x)
	case Prune:
		w.add("prune", x.Name, "to")
		w.expr(x.PTo)
	default:
		w.transaction(x)
	}
}

// transaction adds a statement about transactions and savepoints; nothing if there is no such kind.
func (w *writer) transaction(x Statement) {
	switch x.Kind {
	case Begin:
		w.add("begin")
	case Commit:
		w.add("commit")
	case Rollback:
		w.add("rollback")
	case Save:
		w.add("savepoint", x.Name)
	case Back:
		w.add("rollback", "to", x.Name)
	case Release:
		w.add("release", x.Name)
	}
}

func (w *writer) create(x Statement) {
	w.add("create", "table", x.Name, "(")
	commas(w, x.Columns, w.column)
	w.add(",", "primary", "key")
	inParentheses(w, x.Key, w.name)
	if x.Period != "" {
		w.add(",", "period", x.Period, "(", x.From, ",", x.To, ")")
	}
	if x.Apart {
		w.add(",", "without", "overlaps")
	}
	w.add(")")
	if x.Versioned {
		w.add("versioned")
	}
}

func (w *writer) column(c Column) {
	w.add(c.Name)
	switch c.Type {
	case api.Int:
		w.add("int")
	case api.Text:
		w.add("text")
	case api.Blob:
		w.add("blob")
	default:
		w.wrong = true
	}
	if c.NotNull {
		w.add("not", "null")
	}
}

func (w *writer) row(l []syntax.Expr) { inParentheses(w, l, w.expr) }

func (w *writer) update(x Statement) {
	w.add("update", x.Name)
	w.portion(x)
	w.add("set")
	commas(w, x.Sets, w.set)
	w.optional("where", x.Where)
}

func (w *writer) set(s Set) {
	w.add(s.Name, "=")
	w.expr(s.E)
}

func (w *writer) delete(x Statement) {
	w.add("delete", "from", x.Name)
	w.portion(x)
	w.optional("where", x.Where)
}

func (w *writer) portion(x Statement) {
	if x.Period == "" {
		return
	}
	w.add("for", "portion", "of", x.Period, "from")
	w.expr(x.PFrom)
	w.add("to")
	w.expr(x.PTo)
}

func (w *writer) query(x Statement) {
	w.add("select")
	if x.Distinct {
		w.add("distinct")
	}
	if len(x.Items) == 0 {
		w.add("*")
	}
	commas(w, x.Items, w.item)
	w.add("from")
	w.sources(x.Sources)
	w.optional("where", x.Where)
	if len(x.Group) > 0 {
		w.add("group", "by")
		commas(w, x.Group, w.expr)
	}
	if len(x.Order) > 0 {
		w.add("order", "by")
		commas(w, x.Order, w.sort)
	}
	w.optional("limit", x.Limit)
}

func (w *writer) item(i Item) {
	w.expr(i.E)
	w.alias(i.As)
}

// alias adds the name behind as, if there is one.
func (w *writer) alias(name string) {
	if name != "" {
		w.add("as", name)
	}
}

func (w *writer) sources(l []Source) {
	for i, s := range l {
		if i > 0 {
			w.add("join")
		}
		w.add(s.Name)
		w.view(s)
		w.alias(s.As)
		if i > 0 {
			w.add("on")
			w.expr(s.On)
		}
	}
}

// view adds the versions of the source s that are visible, if it names them.
func (w *writer) view(s Source) {
	switch s.View {
	case 0:
	case asOf:
		w.add("for", "system_time", "as", "of")
		w.expr(s.A)
	case fromTo:
		w.add("for", "system_time", "from")
		w.expr(s.A)
		w.add("to")
		w.expr(s.B)
	case between:
		w.add("for", "system_time", "between")
		w.expr(s.A)
		w.add("and")
		w.expr(s.B)
	case all:
		w.add("for", "system_time", "all")
	default:
		w.wrong = true
	}
}

func (w *writer) sort(s Sort) {
	w.expr(s.E)
	if s.Desc {
		w.add("desc")
	}
}
