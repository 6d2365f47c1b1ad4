package typing_test

import (
	"math"
	"slices"
	"strings"
	"testing"

	"hindsight/api"
	"hindsight/schema"
	"hindsight/syntax"
	"hindsight/typing"
)

func TestP22_2Nodes(t *testing.T) {
	i, s, b := slot(0, 1), slot(1, 2), slot(2, 3)
	lit := func(v api.Value) node { return node{Kind: 1, Value: v, Type: v.Kind} }
	one := lit(api.Value{Kind: 1, Int: 1})
	of := func(kind int, op string, kindOf uint8, args ...node) node {
		return node{Kind: kind, Op: op, Type: kindOf, Args: args}
	}
	for text, want := range map[string]node{
		"1": one, "'a'": lit(api.Value{Kind: 2, Text: "a"}), "x'00'": lit(api.Value{Kind: 3, Text: "\x00"}), "null": lit(api.Value{}), "9223372036854775807": lit(api.Value{Kind: 1, Int: math.MaxInt64}), "''": lit(api.Value{Kind: 2}),
		"i": i, "u.i": i, "t": s, "u.b": b,
		"-i": of(3, "-", 1, i), "not 1": of(3, "not", 1, one), "i + 1": of(4, "+", 1, i, one), "1 - u.i": of(4, "-", 1, one, i), "t = 'a'": of(4, "=", 1, s, lit(api.Value{Kind: 2, Text: "a"})), "t like t": of(4, "like", 1, s, s), "t || t": of(4, "||", 2, s, s), "null || b": of(4, "||", 3, lit(api.Value{}), b),
		"b is null": of(5, "is null", 1, b), "t is not null": of(5, "is not null", 1, s), "count(*)": of(6, "count", 1), "count(b)": of(6, "count", 1, b), "sum(i)": of(6, "sum", 1, i), "min(t)": of(6, "min", 2, s), "max(b)": of(6, "max", 3, b), "max(null)": of(6, "max", 0, lit(api.Value{})),
		"length(b)": of(7, "length", 1, b), "overlaps(1, i, null, 1)": of(7, "overlaps", 1, one, i, lit(api.Value{}), one), "contains(i, i, i, 1)": of(7, "contains", 1, i, i, i, one),
		"(i or 1) and length(t || max(t)) = count(*)": of(4, "and", 1, of(4, "or", 1, i, one), of(4, "=", 1, of(7, "length", 1, of(4, "||", 2, s, of(6, "max", 2, s))), of(6, "count", 1))),
	} {
		if n := bound(t, text, letters()); !equal(n, want) {
			t.Errorf("Bind(%s) = %+v, want %+v", text, n, want)
		}
	}
	two := scope{from("t", "it", true), from("u", "ib", false)}
	for text, want := range map[string]node{"t.a": slot(0, 1), "u.a": slot(4, 1), "t.b": slot(1, 2), "u.b": slot(5, 3), "sys_from": slot(2, 1), "t.sys_to": slot(3, 1)} {
		if n := bound(t, text, two); !equal(n, want) {
			t.Errorf("Bind(%s) = %+v, want %+v", text, n, want)
		}
	}
}

// takesTypes is the table of the types that match: for each operation whether these arguments do, and the type of the whole.
func takesTypes(op string, args []uint8) (bool, uint8) {
	only := func(kind uint8) bool {
		for _, k := range args {
			if k != 0 && k != kind {
				return false
			}
		}
		return true
	}
	switch op {
	case "-", "not", "or", "and", "+", "*", "/", "%", "sum", "overlaps", "contains":
		return only(1), 1
	case "like":
		return only(2), 1
	case "||":
		return only(2) || only(3), max(args[0], args[1])
	case "=", "<>", "<", "<=", ">", ">=":
		return args[0] == 0 || args[1] == 0 || args[0] == args[1], 1
	case "length":
		return args[0] != 1, 1
	case "min", "max":
		return true, args[0]
	case "count", "is null", "is not null":
		return true, 1
	}
	panic(op)
}

// TestP22_2Types has each operation with arguments of each type: columns, literals and what is made of them.
func TestP22_2Types(t *testing.T) {
	arguments := [][]string{{"null", "null || null"}, {"i", "1", "length(t)"}, {"t", "'a'", "t || null"}, {"b", "x''", "null || b"}}
	ops := map[string][2]int{"not": {3, 1}, "is null": {5, 1}, "is not null": {5, 1}, "count": {6, 1}, "sum": {6, 1}, "min": {6, 1}, "max": {6, 1}, "length": {7, 1}, "overlaps": {7, 4}, "contains": {7, 4}}
	for _, op := range strings.Fields("or and = <> < <= > >= like || + - * / %") {
		ops[op] = [2]int{4, 2}
	}
	hold := func(op string, kind int, types []uint8, which int) {
		e := expr{Kind: kind, Op: op}
		var args nodes
		for _, k := range types {
			s := arguments[k][which%len(arguments[k])]
			e.Args = append(e.Args, parsed(t, s))
			args = append(args, bound(t, s, letters()))
		}
		match, want := takesTypes(op, types)
		if !match {
			refuses(t, e, letters(), true, api.ErrType)
			refuses(t, bin(number(1), "+", un("-", e)), letters(), true, api.ErrType)
			return
		}
		n, code := typing.Bind(e, letters(), true)
		if code != api.OK || !equal(n, node{Kind: kind, Op: op, Type: want, Args: args}) {
			t.Errorf("Bind of %d, %s, %v = %+v %v", kind, op, types, n, code)
		}
	}
	for op, takes := range ops {
		for code := range 1 << (2 * takes[1]) {
			var types []uint8
			for i := range takes[1] {
				types = append(types, uint8(code>>(2*i)&3))
			}
			for which := range 6 {
				hold(op, takes[0], types, which)
			}
		}
	}
	for k := range uint8(4) {
		for which := range 6 {
			hold("-", 3, []uint8{k}, which)
		}
	}
	hold("count", 6, nil, 0)
}

// TestP22_2Form has expressions that are not valid, or have aggregates where none may be, whatever else is wrong.
func TestP22_2Form(t *testing.T) {
	wrong := exprs{
		{}, {Kind: 8}, {Kind: -1}, number(-1), column(""), column("A"), column("select"), columnOf("from", "i"), un("+", number(1)), un("-", expr{}), {Kind: 3, Op: "-"}, {Kind: 4, Op: "+", Args: exprs{number(1)}}, {Kind: 6, Op: "sum"}, {Kind: 6, Op: "avg", Args: exprs{number(1)}}, {Kind: 7, Op: "length"}, {Kind: 7, Op: "overlaps", Args: exprs{number(1)}}, {Kind: 1, Value: api.Value{Kind: 9}}, {Kind: 1, Name: "i"}, {Kind: 2, Name: "i", Op: "-"}, {Kind: 5, Op: "is", Args: exprs{number(1)}},
	}
	deep := column("i")
	for range api.MaxDeep {
		deep = un("-", deep)
	}
	endless := un("not", expr{})
	endless.Args[0] = endless
	wrong = append(wrong, deep, endless)
	for _, e := range wrong {
		for _, aggregates := range []bool{false, true} {
			for _, x := range []expr{e, un("-", e), bin(column("nothing"), "+", e), bin(e, "||", number(1)), bin(bin(number(1), "+", column("t")), "+", e), sum(sum(e))} {
				refuses(t, x, letters(), aggregates, api.ErrForm)
				refuses(t, x, nil, aggregates, api.ErrForm)
			}
		}
	}
	if n, code := typing.Bind(deep.Args[0], letters(), false); code != api.OK || n.Type != 1 {
		t.Errorf("Bind of the greatest depth = %v %v", n, code)
	}
}

func TestP22_2Aggregates(t *testing.T) {
	for _, s := range []string{"count(*)", "count(i)", "sum(i)", "min(t)", "max(b)", "1 + sum(i)", "sum(i) + 1", "-sum(i)", "length(min(t))", "sum(i) / count(*)", "overlaps(1, 2, count(*), 3)", "count(*) is null", "not max(i)", "sum(-i) + sum(i) + max(length(t))", "count(null)"} {
		refuses(t, parsed(t, s), letters(), false, api.ErrForm)
		refuses(t, parsed(t, "nothing + ("+s+")"), letters(), false, api.ErrForm)
		refuses(t, parsed(t, "1 + 'a' = ("+s+")"), letters(), false, api.ErrForm)
		bound(t, s, letters())
	}
	for _, s := range []string{"sum(count(*))", "sum(sum(i))", "max(1 + min(i))", "count(-count(*))", "max(length(min(t)))", "1 + sum(max(i))", "sum(max(i)) + 1", "sum(i) + sum(max(i))", "sum(i + sum(max(i)))", "overlaps(1, 2, 3, sum(count(i)))", "count(count(i) is null)", "sum(nothing + sum(i))", "min(min('a' + 1))", "nothing + sum(sum(i))", "(1 + 'a') + sum(sum(i))", "max(not (i or (t = min(t))))"} {
		refuses(t, parsed(t, s), letters(), true, api.ErrForm)
		refuses(t, parsed(t, s), letters(), false, api.ErrForm)
	}
	for _, s := range []string{"i", "1", "-i", "length(t) = i", "null"} {
		n, code := typing.Bind(parsed(t, s), letters(), false)
		if code != api.OK || !equal(n, bound(t, s, letters())) {
			t.Errorf("Bind(%s) = %v %v", s, n, code)
		}
	}
}

// TestP22_2First has several errors: arguments come before what contains them, and those at the left first.
func TestP22_2First(t *testing.T) {
	for s, want := range map[string]api.Errno{
		"1 + 'a'": api.ErrType, "x": api.ErrColumn, "u.x": api.ErrColumn, "v.i": api.ErrColumn, "i.i": api.ErrColumn, "sys_from": api.ErrColumn,
		"x + 'a'": api.ErrColumn, "'a' + x": api.ErrColumn, "-t + x": api.ErrType, "x + -t": api.ErrColumn, "(t + 1) * x": api.ErrType, "x * (t + 1)": api.ErrColumn, "(x || 1) + (1 + t)": api.ErrColumn, "(1 || 1) + (x + t)": api.ErrType, "not (t and x)": api.ErrColumn,
		"length(x)": api.ErrColumn, "length(1)": api.ErrType, "length(1) + x": api.ErrType, "length(1 + x)": api.ErrColumn, "overlaps(t, x, 1, 1)": api.ErrColumn, "overlaps(t, 1, 1, 1)": api.ErrType, "overlaps(1, 1, 1, t)": api.ErrType, "contains(1, -t, x, 1)": api.ErrType, "contains(1, x, -t, 1)": api.ErrColumn, "contains(1, 1, b, x)": api.ErrColumn,
		"sum(t) + x": api.ErrType, "sum(x)": api.ErrColumn, "x + sum(t)": api.ErrColumn, "max(x)": api.ErrColumn, "count(x)": api.ErrColumn, "x is null": api.ErrColumn, "-t is null": api.ErrType, "count(t + 1)": api.ErrType, "min(t + 1)": api.ErrType,
		"t = x": api.ErrColumn, "t = i": api.ErrType, "t = b": api.ErrType, "i = b": api.ErrType, "null = x": api.ErrColumn, "t || b": api.ErrType, "t || i": api.ErrType, "b like b": api.ErrType, "t like b": api.ErrType, "(t || null) = b": api.ErrType, "(null || null) = b": api.OK, "min(t) + 1": api.ErrType, "max(i) + 1": api.OK, "max(b) || t": api.ErrType, "null + max(null)": api.OK, "length(null)": api.OK, "null like null || t": api.OK, "null || null || i": api.ErrType, "null || t || b": api.ErrType,
	} {
		if n, code := typing.Bind(parsed(t, s), letters(), true); code != want || code != api.OK && !equal(n, node{}) {
			t.Errorf("Bind(%s) = %v %v, want %v", s, n, code, want)
		}
	}
	two := scope{from("t", "i", true), from("u", "i", true)}
	for s, want := range map[string]api.Errno{"a": api.ErrColumn, "sys_to": api.ErrColumn, "t.a": api.OK, "u.sys_from": api.OK, "t.a + a": api.ErrColumn, "-'a' + a": api.ErrType, "v.a": api.ErrColumn} {
		if _, code := typing.Bind(parsed(t, s), two, false); code != want {
			t.Errorf("Bind(%s) = %v, want %v", s, code, want)
		}
	}
	for s, want := range map[string]api.Errno{"1 + 1": api.OK, "a": api.ErrColumn, "1 || 'a'": api.ErrType, "count(*)": api.OK, "null": api.OK} {
		if _, code := typing.Bind(parsed(t, s), nil, true); code != want {
			t.Errorf("Bind(%s) = %v without sources, want %v", s, code, want)
		}
	}
}

// define is Bind by the definition, for an expression that is valid, with letters as its scope.
func define(e expr) (node, api.Errno) {
	n := node{Kind: e.Kind, Op: e.Op}
	var types []uint8
	for _, x := range e.Args {
		arg, code := define(x)
		if code != api.OK {
			return node{}, code
		}
		n.Args, types = append(n.Args, arg), append(types, arg.Type)
	}
	switch e.Kind {
	case 1:
		n.Value, n.Type = e.Value, e.Value.Kind
		return n, api.OK
	case 2:
		if n.Slot = strings.Index("itb", e.Name); e.Table == "v" || n.Slot < 0 {
			return node{}, api.ErrColumn
		}
		n.Type = uint8(n.Slot) + 1
		return n, api.OK
	}
	match, kind := takesTypes(e.Op, types)
	if !match {
		return node{}, api.ErrType
	}
	n.Type = kind
	return n, api.OK
}

// nested reports whether e has an aggregate, and whether it has one inside another one.
func nested(e expr) (bool, bool) {
	some, twice := false, false
	for _, x := range e.Args {
		a, b := nested(x)
		some, twice = some || a, twice || b
	}
	return some || e.Kind == 6, twice || some && e.Kind == 6
}

// TestP22_2ByDefinition has expressions by chance.
func TestP22_2ByDefinition(t *testing.T) {
	next := chance(6)
	seen := map[api.Errno]int{}
	for range 20000 {
		e := next.expr(1 + next.below(5))
		some, twice := nested(e)
		for _, aggregates := range []bool{false, true} {
			want, code := define(e)
			if twice || some && !aggregates {
				want, code = node{}, api.ErrForm
			}
			seen[code]++
			n, err := typing.Bind(e, letters(), aggregates)
			if err != code || !equal(n, want) {
				s, _ := syntax.Write(e)
				t.Fatalf("Bind(%s, %v) = %+v %v, want %+v %v", s, aggregates, n, err, want, code)
			}
		}
	}
	for _, code := range []api.Errno{api.OK, api.ErrForm, api.ErrColumn, api.ErrType} {
		if seen[code] < 500 {
			t.Errorf("seen: %v", seen)
		}
	}
}

// TestP22_4 holds that a node has the arguments of its expression.
func TestP22_4(t *testing.T) {
	var hold func(e expr, n node) bool
	hold = func(e expr, n node) bool {
		if e.Kind != n.Kind || e.Op != n.Op || e.Value != n.Value || len(e.Args) != len(n.Args) {
			return false
		}
		for i := range e.Args {
			if !hold(e.Args[i], n.Args[i]) {
				return false
			}
		}
		return true
	}
	next := chance(8)
	count := 0
	for range 5000 {
		e := next.expr(1 + next.below(6))
		n, code := typing.Bind(e, letters(), true)
		if code != api.OK {
			continue
		}
		count++
		if !hold(e, n) {
			t.Fatalf("%v became %v", e, n)
		}
		lifted, _ := typing.Lift(n, 3)
		if hasAggregate(lifted) {
			t.Fatalf("%v became %v", n, lifted)
		}
	}
	if count < 1000 {
		t.Errorf("only %d nodes", count)
	}
}

func hasAggregate(n node) bool { return n.Kind == 6 || slices.ContainsFunc(n.Args, hasAggregate) }

// TestP1Bind has scopes made by hand, and holds that arguments are left as they are and shared with no result.
func TestP1Bind(t *testing.T) {
	odd := scope{{As: "u", Table: schema.Table{Columns: []schema.Column{{Name: "i", Kind: 0}, {Name: "t", Kind: 4}, {Name: "b", Kind: 255}}, Key: []int{99}, From: -5, To: 77}}, {}}
	for _, s := range []string{"i", "t + 1", "b || t", "max(b) = t", "length(t)", "i like b", "nothing"} {
		typing.Bind(parsed(t, s), odd, true)
	}
	e := parsed(t, "overlaps(i, 1, max(i), 2) and t = 'a'")
	before, _ := syntax.Write(e)
	l := letters()
	n, _ := typing.Bind(e, l, true)
	want := bound(t, before, letters())
	e.Args[0].Args[0].Name = "b"
	e.Args[1].Args[1].Value.Text = "z"
	l[0].Table.Columns[0].Kind = 2
	if !equal(n, want) {
		t.Errorf("%v became %v", want, n)
	}
	e = parsed(t, before)
	n, _ = typing.Bind(e, letters(), true)
	n.Args[0].Args[2].Args[0].Slot = 9
	n.Args[1].Args[0] = node{}
	if s, _ := syntax.Write(e); s != before {
		t.Errorf("%s became %s", before, s)
	}
}
