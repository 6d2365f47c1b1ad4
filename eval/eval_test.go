package eval_test

import (
	"math"
	"slices"
	"strings"
	"testing"

	"hindsight/api"
	"hindsight/eval"
)

func TestP23_1Values(t *testing.T) {
	row := values{number(7), {}, text("a%c"), text("\u00e4\u00f6"), blob("\x00\xff"), {}}
	for s, want := range map[string]value{
		"1": number(1), "null": {}, "'a'": text("a"), "x'00ff'": blob("\x00\xff"), "''": text(""), "i": number(7), "j": {}, "s": text("a%c"), "b": blob("\x00\xff"), "c": {},
		"-i": number(-7), "- -i": number(7), "-j": {}, "not i": number(0), "not 0": number(1), "not j": {}, "-9223372036854775807 - 1": number(math.MinInt64),
		"i + 1": number(8), "1 - i": number(-6), "i * i": number(49), "-i / 2": number(-3), "-i % 2": number(-1), "i % -2": number(1), "i + j": {}, "j * 0": {}, "j / 0": {}, "0 / j": {}, "1 + 2 * 3": number(7), "9223372036854775806 + 1": number(math.MaxInt64),
		"0 and j": number(0), "j and 0": number(0), "j and 1": {}, "1 and -1": number(1), "1 and 0": number(0), "1 or j": number(1), "j or 1": number(1), "j or 0": {}, "0 or 0": number(0), "0 or -5": number(1),
		"1 = null": {}, "null = null": {}, "null <> null": {}, "j < 1": {}, "1 >= j": {}, "i = 7": number(1), "i <> 7": number(0), "i < 8": number(1), "i <= 7": number(1), "i > 7": number(0), "i >= 8": number(0), "7 < i": number(0), "-1 < 0": number(1), "'a' < 'b'": number(1), "'B' < 'a'": number(1), "'' < 'a'": number(1), "'10' < '9'": number(1), "x'00' < x'0000'": number(1), "x'ff' > x'00ff'": number(1), "s = s": number(1), "b <> b": number(0),
		"'abc' like 'a%'": number(1), "'abc' like 'a_'": number(0), "s like s": number(1), "'abc' like s": number(1), "s like 'abc'": number(0), "'' like ''": number(1), "'a' like ''": number(0), "'' like '%'": number(1), "t like '__'": number(1), "t like '____'": number(0), "'A' like 'a'": number(0), "null like 'a'": {}, "'a' like null": {}, "null like null": {},
		"s || 'd'": text("a%cd"), "'a' || 'b'": text("ab"), "'a' || ''": text("a"), "b || x'01'": blob("\x00\xff\x01"), "'a' || null": {}, "null || 'a'": {}, "c || b": {}, "null || null": {},
		"j is null": number(1), "i is null": number(0), "j is not null": number(0), "'' is not null": number(1), "(j + 1) is null": number(1), "x'' is null": number(0), "(null = null) is null": number(1),
		"overlaps(1, 5, 4, 9)": number(1), "overlaps(1, 5, 5, 9)": number(0), "overlaps(5, 9, 1, 5)": number(0), "overlaps(1, 9, 3, 5)": number(1), "overlaps(3, 5, 1, 9)": number(1), "overlaps(1, 2, 8, 9)": number(0), "overlaps(1, 5, 1, 5)": number(1), "overlaps(1, 2, 3, null)": {}, "overlaps(j, 1, 2, 3)": {}, "overlaps(5, j, 9, 1)": {},
		"contains(1, 9, 3, 5)": number(1), "contains(3, 5, 1, 9)": number(0), "contains(1, 5, 1, 5)": number(1), "contains(1, 5, 1, 6)": number(0), "contains(1, 5, 0, 5)": number(0), "contains(1, 5, 5, 9)": number(0), "contains(1, 5, 2, null)": {}, "contains(2, 1, null, 2)": {},
		"length('abc')": number(3), "length(t)": number(2), "length('')": number(0), "length(b)": number(2), "length(x'')": number(0), "length(x'c3a4')": number(2), "length(null)": {}, "length(c)": {}, "length('\u20ac\U0001f600')": number(2), "length(s || t)": number(5),
	} {
		holds(t, bound(t, s), row, want, api.OK)
	}
}

func TestP23_1Errors(t *testing.T) {
	row := values{number(math.MinInt64), number(0), text("a"), text("\xff"), blob("a"), {}}
	for s, want := range map[string]api.Errno{
		"-i": api.ErrOver, "i - 1": api.ErrOver, "9223372036854775807 + 1": api.ErrOver, "i * -1": api.ErrOver, "i / -1": api.ErrOver, "4611686018427387904 * 2": api.ErrOver, "1 / 0": api.ErrZero, "1 % j": api.ErrZero, "i / j": api.ErrZero,
		"'a' like t": api.ErrForm, "t like 'a'": api.ErrForm, "t like t": api.ErrForm, "t like '%'": api.ErrForm, "length(t)": api.ErrForm, "length(s || t)": api.ErrForm,
		"overlaps(1, 1, 1, 2)": api.ErrEmpty, "overlaps(1, 2, 2, 2)": api.ErrEmpty, "overlaps(2, 1, 1, 2)": api.ErrEmpty, "contains(1, 9, 5, 3)": api.ErrEmpty, "contains(1, 1, 1, 1)": api.ErrEmpty, "contains(0, i, 0, 1)": api.ErrEmpty,
		// An operation is evaluated even if the other argument tells its result already.
		"0 and 1 / 0": api.ErrZero, "1 or 1 / 0": api.ErrZero, "null = 1 / 0": api.ErrZero, "null + -i": api.ErrOver, "overlaps(1, 1, 1, null * (1 / 0))": api.ErrZero, "(1 / 0) is null": api.ErrZero,
		// The first argument with an error tells it.
		"1 / 0 + -i": api.ErrZero, "-i + 1 / 0": api.ErrOver, "overlaps(1, 2, -i, 1 / 0)": api.ErrOver, "contains(1 / 0, -i, 1, 1)": api.ErrZero, "length('a' || t) + 1 / 0": api.ErrForm, "1 / 0 + length(t)": api.ErrZero,
	} {
		holds(t, bound(t, s), row, value{}, want)
	}
}

// TestP23_1ByDefinition has each operation with each value in each place, as a literal or in a slot.
func TestP23_1ByDefinition(t *testing.T) {
	hold := func(n node, row values) {
		want, code := expected(n, row)
		holds(t, n, row, want, code)
	}
	for _, a := range ordered() {
		for _, x := range []node{of(3, "-"), of(3, "not"), of(5, "is null"), of(5, "is not null"), of(7, "length")} {
			x.Args = nodes{lit(a)}
			hold(x, nil)
			x.Args = nodes{col(1)}
			hold(x, values{{}, a})
		}
		for _, b := range ordered() {
			for _, op := range strings.Fields("or and = <> < <= > >= like || + - * / %") {
				hold(of(4, op, lit(a), lit(b)), nil)
				hold(of(4, op, col(0), col(1)), values{a, b})
				hold(of(4, op, col(1), lit(b)), values{b, a, b})
			}
		}
	}
}

// TestP23_1Spans has all spans between edges, and values that are no integers, in each place.
func TestP23_1Spans(t *testing.T) {
	for _, a := range few() {
		for _, b := range few() {
			for _, c := range few() {
				for _, d := range few() {
					row := values{a, b, c, d}
					for _, op := range []string{"overlaps", "contains"} {
						n := of(7, op, col(0), lit(b), col(2), lit(d))
						want, code := expected(n, row)
						holds(t, n, row, want, code)
					}
				}
			}
		}
	}
}

func TestP23_1Like(t *testing.T) {
	a := strings.Repeat("a", 1000)
	for _, c := range []struct {
		s, pattern value
		want       value
		code       api.Errno
	}{
		{text(a), text(a), number(1), api.OK},
		{text(a), text(a + "a"), value{}, api.ErrLong},
		{value{}, text(a + "a"), value{}, api.OK},
		{value{}, text("\xff"), value{}, api.OK},
		{text("\xff"), value{}, value{}, api.OK},
		{text("\xff"), text(a + "a"), value{}, api.ErrLong},
		{text("\xff"), text("\xff"), value{}, api.ErrForm},
		{text("a"), text("\xc3"), value{}, api.ErrForm},
		{text(strings.Repeat(a, 100)), text("a%"), number(1), api.OK},
		{text(strings.Repeat(a, 100) + "a"), text("a%"), value{}, api.ErrLong},
		{text(strings.Repeat(a, 100) + "a"), text("\xff"), value{}, api.ErrForm},
		{number(1), text("1"), value{}, api.ErrType},
		{text("1"), number(1), value{}, api.ErrType},
		{blob("a"), blob("a"), value{}, api.ErrType},
		{blob("a"), text("\xff"), value{}, api.ErrType},
		{text("\xff"), blob("a"), value{}, api.ErrType},
		{number(1), value{}, value{}, api.OK},
		{value{}, blob("a"), value{}, api.OK},
	} {
		holds(t, of(4, "like", lit(c.s), lit(c.pattern)), nil, c.want, c.code)
		holds(t, of(4, "like", col(1), col(0)), values{c.pattern, c.s}, c.want, c.code)
	}
}

func TestP23_1Form(t *testing.T) {
	for _, n := range wrong() {
		holds(t, n, values{{}, {}}, value{}, api.ErrForm)
		holds(t, of(3, "-", n), nil, value{}, api.ErrForm)
		holds(t, of(4, "and", lit(number(0)), n), nil, value{}, api.ErrForm)
		holds(t, of(7, "contains", lit(number(1)), lit(number(2)), lit(number(2)), of(5, "is null", n)), nil, value{}, api.ErrForm)
		for _, m := range (nodes{zero(), over(), typed(), empty(), beyond()}) {
			_, code := expected(m, nil)
			holds(t, of(4, "+", m, n), nil, value{}, code)
			holds(t, of(4, "+", n, m), nil, value{}, api.ErrForm)
		}
		// What is wrong with a node itself goes before the errors of its arguments.
		n.Args = slices.Clone(n.Args)
		for i := range n.Args {
			n.Args[i] = zero()
		}
		holds(t, n, nil, value{}, api.ErrForm)
	}
	for kind := -1; kind < 10; kind++ {
		for _, op := range strings.Split("or;and;=;<>;<;<=;>;>=;like;||;+;-;*;/;%;not;is null;is not null;count;sum;min;max;length;overlaps;contains;;!=;IS NULL", ";") {
			for count := range 6 {
				n := of(kind, op)
				for range count {
					n.Args = append(n.Args, col(0))
				}
				row := values{number(1)}
				want, code := expected(n, row)
				if valid := kind == 1 || kind == 2 || kind != 6 && takes(kind, op, count); valid == (code == api.ErrForm) {
					t.Fatalf("the test itself is wrong about %d %s %d", kind, op, count)
				}
				holds(t, n, row, want, code)
			}
		}
	}
}

// TestP23_1Leaves has literals and columns with other fields, which are not looked at.
func TestP23_1Leaves(t *testing.T) {
	for _, v := range ordered() {
		for _, n := range []node{lit(v), {Kind: 1, Value: v, Op: "?", Slot: -5, Type: 9, Args: nodes{{}, zero()}}, {Kind: 1, Value: v, Op: "count", Args: make(nodes, 9)}} {
			holds(t, n, nil, v, api.OK)
			holds(t, n, invalid(), v, api.OK)
		}
		for _, n := range []node{col(2), {Kind: 2, Slot: 2, Op: "?", Value: value{Kind: 9}, Type: 9, Args: nodes{{}, zero()}}} {
			holds(t, n, values{{Kind: 9}, {Int: 1}, v, {Kind: 1, Text: "a"}}, v, api.OK)
		}
	}
	for _, v := range invalid() {
		holds(t, lit(v), nil, value{}, api.ErrForm)
		holds(t, node{Kind: 1, Value: v, Op: "?", Args: nodes{{}}}, nil, value{}, api.ErrForm)
		holds(t, col(0), values{v}, value{}, api.ErrForm)
		holds(t, of(5, "is null", lit(v)), nil, value{}, api.ErrForm)
		holds(t, of(4, "or", lit(number(1)), col(1)), values{number(1), v}, value{}, api.ErrForm)
		holds(t, of(4, "+", typed(), col(0)), values{v}, value{}, api.ErrType)
		holds(t, of(4, "+", col(0), typed()), values{v}, value{}, api.ErrForm)
		holds(t, of(4, "+", col(0), col(1)), values{v}, value{}, api.ErrForm)
		holds(t, of(4, "+", col(1), col(0)), values{v}, value{}, api.ErrColumn)
	}
	for _, slot := range []int{-1, 2, 3, 1 << 32, math.MaxInt, math.MinInt} {
		long := values{number(1), number(2), number(3), number(4)}
		for _, row := range []values{nil, {}, {number(1)}, {number(1), text("a")}, long[:2], long[:0]} {
			holds(t, col(slot), row, value{}, api.ErrColumn)
			holds(t, of(4, "and", lit(number(0)), of(3, "not", col(slot))), row, value{}, api.ErrColumn)
		}
	}
	holds(t, col(0), values{}, value{}, api.ErrColumn)
}

// node is a next node of at most that depth, made by hand, with a few things that are not valid.
func (c *chance) node(depth int, l values) node {
	if c.below(60) == 0 {
		return wrong()[c.below(len(wrong()))]
	}
	choice := c.below(9)
	if depth == 1 || choice == 0 {
		if c.below(2) == 0 {
			return col(c.below(5) - c.below(60)/59)
		}
		return lit(c.value(l))
	}
	n, count := of(4, c.op("or and = <> < <= > >= like || + - * / %")), 2
	switch choice {
	case 1:
		n, count = of(3, c.op("- not")), 1
	case 2:
		n, count = of(5, "is "+[]string{"", "not "}[c.below(2)]+"null"), 1
	case 3:
		n, count = of(7, "length"), 1
	case 4:
		n, count = of(7, c.op("overlaps contains")), 4
	}
	for range count {
		n.Args = append(n.Args, c.node(depth-1, l))
	}
	return n
}

// TestP23_1ByChance has nested nodes, held against the definition; nothing that is handed in changes.
func TestP23_1ByChance(t *testing.T) {
	next, good := chance(23), 0
	for i := range 60000 {
		// The more values and depth there are, the fewer nodes have no error.
		l := ordered()[:1+next.below(13)]
		switch i % 4 {
		case 0:
			l = few()
		case 1:
			l = values{{}, number(0), number(1), number(2)}
		}
		row := values{next.value(l), next.value(l), next.value(l), next.value(l)}
		if next.below(20) == 0 {
			row[next.below(4)] = next.value(invalid())
		}
		n := next.node(1+next.below(5), l)
		before, rowBefore := copied(n), slices.Clone(row)
		want, code := expected(n, row)
		holds(t, n, row, want, code)
		if !equal(n, before) || !slices.Equal(row, rowBefore) {
			t.Fatalf("Value changed %+v or %v", before, rowBefore)
		}
		if code == api.OK {
			good++
		}
	}
	if good < 15000 {
		t.Errorf("only %d nodes have a value", good)
	}
}

func TestP23_1Deep(t *testing.T) {
	n := nested(1<<16, lit(number(1)))
	want, code := expected(n, nil)
	holds(t, n, nil, want, code)
	for _, end := range (nodes{zero(), over(), typed(), empty(), beyond(), {}}) {
		_, code := expected(end, nil)
		if v, err := eval.Value(nested(1<<16-2, end), nil); v != (value{}) || err != code {
			t.Errorf("deep inside %+v: %v %v", end, v, err)
		}
	}
}

func TestP23_1True(t *testing.T) {
	for _, v := range ordered() {
		want, code := v.Kind == 1 && v.Int != 0, api.OK
		if v.Kind > 1 {
			code = api.ErrType
		}
		for _, n := range []node{lit(v), col(1)} {
			if yes, err := eval.True(n, values{{}, v}); yes != want || err != code {
				t.Errorf("True(%+v) of %v = %v %v", n, v, yes, err)
			}
		}
	}
	for s, want := range map[string]bool{
		"1": true, "0": false, "-1": true, "2": true, "null": false, "1 = 1": true, "1 = 2": false, "1 = null": false, "not null": false, "not 0": true, "null or 1": true, "null and 1": false, "null is null": true, "length('a') - 1": false, "i > 3": true, "i < 3": false, "j > 3": false, "s like 'a'": true, "-9223372036854775807": true, "overlaps(1, 2, 2, 3)": false, "contains(1, 2, 1, 2)": true,
	} {
		if yes, err := eval.True(bound(t, s), values{number(7), {}, text("a")}); yes != want || err != api.OK {
			t.Errorf("True(%s) = %v %v", s, yes, err)
		}
	}
	for _, l := range []nodes{wrong(), {zero(), over(), typed(), empty(), beyond(), lit(invalid()[0]), col(0)}} {
		for _, n := range l {
			row := values{{Kind: 7}}
			_, code := expected(n, row)
			if yes, err := eval.True(n, row); yes || err != code || err == api.OK {
				t.Errorf("True(%+v) = %v %v, want %v", n, yes, err, code)
			}
			// The error of the value goes before that of its kind.
			if yes, err := eval.True(of(4, "||", lit(text("a")), n), row); yes || err != code {
				t.Errorf("True(a || %+v) = %v %v, want %v", n, yes, err, code)
			}
		}
	}
}

// next is a next expression of that type by its text, most often without an error.
func (c *chance) expression(depth int, kind int) string {
	one := func(kind int) string { return "(" + c.expression(depth-1, kind) + ")" }
	if depth == 1 || c.below(4) == 0 {
		leaf := [][]string{{"null"}, {"i", "j", "0", "1", "7"}, {"s", "t", "'a'", "'%'"}, {"b", "c", "x'61'", "x''"}}[kind]
		return leaf[c.below(len(leaf))]
	}
	if kind == 0 {
		return one(0) + " || null"
	}
	if kind > 1 {
		return []string{one(kind) + " || " + one(kind), "null || " + one(kind)}[c.below(2)]
	}
	any, other := one(c.below(4)), one(2+c.below(2))
	switch c.below(6) {
	case 0:
		return c.op("- not") + " " + one(1)
	case 1:
		kind := c.below(4)
		return one(kind) + c.op("= <> < <= > >=") + one(kind*c.below(2))
	case 2:
		return any + " is " + []string{"", "not "}[c.below(2)] + "null"
	case 3:
		return []string{"length(" + other + ")", one(2) + " like " + one(2)}[c.below(2)]
	case 4:
		return c.op("overlaps contains") + "(" + one(1) + ", 3, " + one(1) + ", 4)"
	}
	return one(1) + " " + c.op("or and + - * / %") + " " + one(1)
}

// TestP23_3Kinds has bound expressions by chance: a value is of the kind of its type.
func TestP23_3Kinds(t *testing.T) {
	next, seen := chance(3), map[[2]uint8]int{}
	for range 30000 {
		n := bound(t, next.expression(1+next.below(5), next.below(4)))
		var row values
		for _, l := range []values{{{}, number(1), number(2)}, {{}, text("a"), text("%")}, {{}, blob("a"), blob("")}} {
			row = append(row, next.value(l), next.value(l))
		}
		v, code := eval.Value(n, row)
		if code != api.OK {
			continue
		}
		if n.Type != 0 && v.Kind != 0 && v.Kind != n.Type {
			t.Fatalf("the type of %+v is %d, and its value is %v", n, n.Type, v)
		}
		seen[[2]uint8{n.Type, v.Kind}]++
	}
	for kind := range uint8(4) {
		if seen[[2]uint8{kind, kind}] < 100 || seen[[2]uint8{kind, 0}] < 100 {
			t.Errorf("few values of type %d: %v", kind, seen)
		}
	}
}

// TestP1Value has nodes made by hand of anything.
func TestP1Value(t *testing.T) {
	next := chance(1)
	var any func(depth int) node
	any = func(depth int) node {
		n := node{Kind: next.below(10) - 1, Op: next.op("? - not and like || = length overlaps count sum min"), Slot: next.below(6) - 2, Type: uint8(next.below(6)), Value: next.value(append(invalid(), ordered()...))}
		if depth > 1 {
			for range next.below(5) {
				n.Args = append(n.Args, any(depth-1))
			}
		}
		return n
	}
	for range 30000 {
		n, row := any(1+next.below(4)), values{next.value(invalid()), next.value(ordered()), next.value(few())}
		want, code := expected(n, row)
		holds(t, n, row, want, code)
		s, err := eval.Begin(n)
		if isAgg := n.Kind == 6 && takes(6, n.Op, len(n.Args)); isAgg != (s != nil) || isAgg != (err == api.OK) {
			t.Errorf("Begin(%+v) = %v %v", n, s, err)
		}
		s.Add(row)
		s.Value()
	}
}
