package syntax

import (
	"hindsight/api"
	"hindsight/cell"
	"hindsight/runes"
)

// valid reports whether e is valid if its arguments are.
func valid(e Expr) bool {
	switch e.Kind {
	case Lit:
		return cell.Right(e.Value) && e.Value.Int >= 0 && e.Table == "" && e.Name == "" && e.Op == "" && len(e.Args) == 0
	case Col:
		return isName(e.Name) && (e.Table == "" || isName(e.Table)) && e.Value == api.Value{} && e.Op == "" && len(e.Args) == 0
	}
	return takes(e.Kind, e.Op, len(e.Args)) && e.Value == api.Value{} && e.Table == "" && e.Name == ""
}

// isName reports whether s can be the name of a column or of a table.
func isName(s string) bool {
	name, err := runes.Name(s)
	return err == api.OK && name == s && !Reserved(s)
}

// takes reports whether there is an operation op of that kind with count arguments.
func takes(kind int, op string, count int) bool {
	switch kind {
	case Un:
		return count == 1 && (op == "-" || op == "not")
	case Bin:
		return count == 2 && isBinary(op)
	case Null:
		return count == 1 && (op == "is null" || op == "is not null")
	case Agg:
		return isAggregate(op) && count == 1 || op == "count" && count == 0
	case Call:
		return (op == "overlaps" || op == "contains") && count == 4 || op == "length" && count == 1
	}
	return false
}

func isBinary(op string) bool {
	switch op {
	case "or", "and", "=", "<>", "<", "<=", ">", ">=", "like", "||", "+", "-", "*", "/", "%":
		return true
	}
	return false
}

func isAggregate(op string) bool {
	switch op {
	case "count", "sum", "min", "max":
		return true
	}
	return false
}

// Reserved reports whether s is a reserved word.
func Reserved(s string) bool {
	switch s {
	case "and", "as", "asc", "begin", "between", "blob", "by", "commit", "create", "delete", "desc", "distinct", "drop",
		"for", "from", "group", "index", "insert", "int", "into", "is", "join", "key", "like", "limit",
		"not", "null", "of", "on", "or", "order", "period", "portion", "primary", "prune",
		"release", "rollback", "savepoint", "select", "set", "system_time",
		"table", "text", "to", "update", "values", "versioned", "where", "without":
		return true
	}
	return false
}
