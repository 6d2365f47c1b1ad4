package plan_test

import (
	"math"
	"slices"
	"strings"
	"testing"

	"hindsight/api"
	"hindsight/eval"
	"hindsight/plan"
	"hindsight/typing"
)

func TestP24_1Safe(t *testing.T) {
	for s, want := range map[string]bool{
		"1": true, "null": true, "'a'": true, "x''": true, "a": true, "u.g": true, "not a": true, "a is null": true, "a is not null": true, "a or b": true, "a and b": true, "a = b": true, "a <> 1": true, "1 < a": true, "a <= null": true, "a > b": true, "a >= b": true, "not (a = 1 or b is null and not c <= d)": true, "(a = 1) = (b < c)": true,
		"-a": false, "-1": false, "a + 1": false, "a - 1": false, "a * 1": false, "a / 1": false, "a % 1": false, "'a' like 'a'": false, "'a' || 'b'": false, "length('a')": false, "overlaps(1, 2, 3, 4)": false, "contains(a, b, c, d)": false, "count(*)": false, "count(a)": false, "sum(a)": false, "min(a)": false, "max(a)": false,
		"a = -1": false, "not (a + 1)": false, "(a / 1) is null": false, "length('a') is not null": false, "a = 1 and b = c % d": false, "a = 1 or 'a' like 'b'": false, "count(*) > 1": false, "not (a = 1 and (b = 1 or not (c is null and d = e * 2)))": false,
	} {
		if plan.Safe(bound(t, s)) != want {
			t.Errorf("Safe(%s) = %v", s, !want)
		}
	}
}

// safeAlone is the table of what may be in a safe node.
func safeAlone(n node) bool {
	words := map[[2]int]string{{3, 1}: "not", {5, 1}: "is null;is not null", {4, 2}: "or;and;=;<>;<;<=;>;>="}
	return n.Kind == 1 || n.Kind == 2 || slices.Contains(strings.Split(words[[2]int{n.Kind, len(n.Args)}], ";"), n.Op) && n.Op != ""
}

// TestP24_1SafeKinds has each kind with each operation and number of arguments, alone and deep inside a safe node.
func TestP24_1SafeKinds(t *testing.T) {
	places := []func(n node) node{
		func(n node) node { return n },
		func(n node) node { return of(3, "not", n) },
		func(n node) node { return of(5, "is null", of(5, "is not null", n)) },
		func(n node) node { return of(4, "or", lit(1), of(4, "and", n, lit(1))) },
		func(n node) node { return of(4, ">=", of(4, "<", is(col(1), n), lit(1)), col(0)) },
		func(n node) node { return node{Kind: 1, Args: nodes{lit(1), n}} },
		func(n node) node { return node{Kind: 2, Op: "?", Args: nodes{n, lit(1)}} },
	}
	for kind := -1; kind < 10; kind++ {
		for _, op := range strings.Split("or;and;=;<>;<;<=;>;>=;like;||;+;-;*;/;%;not;is null;is not null;count;sum;min;max;length;overlaps;contains;;NOT;==;is", ";") {
			for count := range 6 {
				n := of(kind, op)
				for i := range count {
					n.Args = append(n.Args, col(i))
				}
				want := safeAlone(n)
				for i, place := range places {
					if plan.Safe(place(n)) != want {
						t.Errorf("%d: Safe of %d, %s with %d arguments = %v", i, kind, op, count, !want)
					}
				}
			}
		}
	}
	for _, kind := range []int{256 + 1, 256 + 2, 1 << 32, math.MaxInt, math.MinInt} {
		if plan.Safe(of(kind, "not", lit(1))) {
			t.Errorf("%d is safe", kind)
		}
	}
	// Neither values, nor slots, nor types are looked at.
	for _, n := range []node{{Kind: 1, Value: value{Kind: 9}}, {Kind: 1, Op: "+"}, {Kind: 2, Slot: -1, Op: "-"}, {Kind: 2, Slot: math.MaxInt, Type: 9}, {Kind: 3, Op: "not", Value: value{Int: 1}, Slot: 3, Args: nodes{col(0)}}} {
		if !plan.Safe(n) {
			t.Errorf("%+v is not safe", n)
		}
	}
}

// TestP24_1SafeNeverErrs evaluates bound nodes: the ones that are safe have no error.
func TestP24_1SafeNeverErrs(t *testing.T) {
	next, safe := chance(5), 0
	var text func(depth int) string
	text = func(depth int) string {
		if depth == 1 {
			return next.op("a b c d e f g 0 1 null -1")
		}
		one := func() string { return "(" + text(depth-1) + ")" }
		switch next.below(5) {
		case 0:
			return "not " + one()
		case 1:
			return one() + []string{" is null", " is not null", " + 1", " / 0"}[next.below(2)+2*(next.below(9)/8)]
		}
		return one() + " " + next.op("and or = <> < <= > >=") + " " + one()
	}
	for range 20000 {
		n := bound(t, text(1+next.below(5)))
		if !plan.Safe(n) {
			continue
		}
		safe++
		var row values
		for range 7 {
			row = append(row, []value{{}, number(0), number(1), number(2), number(math.MinInt64)}[next.below(5)])
		}
		if _, code := eval.Value(n, row); code != api.OK {
			t.Fatalf("Value(%+v) of %v = %v", n, row, code)
		}
	}
	if safe < 5000 {
		t.Errorf("only %d safe nodes", safe)
	}
}

func TestP24_1Parts(t *testing.T) {
	for s, want := range map[string]string{
		"a": "a", "1": "1", "null": "null", "a = 1": "a = 1", "a or b": "a or b", "not (a and b)": "not (a and b)", "(a and b) is null": "(a and b) is null", "(a and b) or c": "(a and b) or c", "(a and b) = c": "(a and b) = c", "count(*) = 1": "count(*) = 1",
		"a and b": "a;b", "a and a": "a;a", "a and b and c": "a;b;c", "a and (b and c)": "a;b;c", "(a and b) and (c and d)": "a;b;c;d", "a and (b and (c and d)) and e": "a;b;c;d;e", "a = 1 and b = 2": "a = 1;b = 2", "a and (b or c) and d": "a;b or c;d", "a and not (b and c)": "a;not (b and c)", "a and (b or c and d)": "a;b or c and d", "g and count(*) and 1 / 0": "g;count(*);1 / 0",
	} {
		if got := plan.Parts(bound(t, s)); !equalAll(got, bounds(t, want)) {
			t.Errorf("Parts(%s) = %+v, want %s", s, got, want)
		}
	}
	a, b := col(0), lit(1)
	for i, n := range []node{
		{}, {Kind: -1}, {Kind: 99, Op: "and", Args: nodes{a, b}}, of(4, "and"), of(4, "and", a), of(4, "and", a, b, a), of(3, "and", a, b), of(7, "and", a, b), of(6, "and", a, b), of(5, "and", a, b), of(0, "and", a, b), of(256+4, "and", a, b), of(1, "and", a, b), of(2, "and", a, b), of(4, "AND", a, b), of(4, "or", a, b), of(4, "", a, b),
	} {
		if got := plan.Parts(n); !equalAll(got, nodes{n}) {
			t.Errorf("%d: Parts = %+v", i, got)
		}
		if got := plan.Parts(and(b, and(n, a))); !equalAll(got, nodes{b, n, a}) {
			t.Errorf("%d: Parts = %+v", i, got)
		}
	}
	// The other fields of an and are not looked at.
	if got := plan.Parts(node{Kind: 4, Op: "and", Slot: 5, Type: 7, Value: value{Kind: 9}, Args: nodes{a, b}}); !equalAll(got, nodes{a, b}) {
		t.Errorf("Parts = %+v", got)
	}
}

func TestP24_1PartsDeep(t *testing.T) {
	left, right := lit(0), lit(0)
	for i := range 1<<16 - 1 {
		left, right = and(left, lit(int64(i+1))), and(lit(int64(i+1)), right)
	}
	l, r := plan.Parts(left), plan.Parts(right)
	if len(l) != 1<<16 || len(r) != 1<<16 {
		t.Fatalf("%d and %d parts", len(l), len(r))
	}
	for i := range l {
		if l[i].Value != number(int64(i)) || r[i].Value != number(int64(len(r)-i-1)%int64(len(r))) {
			t.Fatalf("parts number %d are %v and %v", i, l[i], r[i])
		}
	}
	if !plan.Safe(left) || !plan.Safe(right) || plan.Safe(and(right, and(lit(1), of(3, "-", lit(1))))) {
		t.Error("deep nodes")
	}
	if n, some := plan.Equal(nodes{is(left, col(1))}, 1, 1); !some || n.Args[1].Value != number(1<<16-1) {
		t.Error("a deep result is not there")
	}
}

func TestP24_1Equal(t *testing.T) {
	for _, c := range []struct {
		parts       string
		slot, first int
		want        string
	}{
		{"", 0, 0, ""}, {"a", 0, 0, ""}, {"1", 0, 0, ""}, {"b = 1", 0, 0, ""}, {"a = 1", 1, 0, ""}, {"a is null", 0, 0, ""}, {"not a", 0, 0, ""},
		{"a = 1", 0, 0, "1"}, {"1 = a", 0, 0, "1"}, {"a = null", 0, 0, "null"}, {"'x' = null;a = 2", 0, 0, "2"}, {"b = 1", 1, 0, "1"}, {"a = length('a') + 1", 0, 0, "length('a') + 1"}, {"count(*) = a", 0, 0, "count(*)"},
		{"a <> 1", 0, 0, ""}, {"a < 1", 0, 0, ""}, {"a <= 1", 0, 0, ""}, {"a > 1", 0, 0, ""}, {"a >= 1", 0, 0, ""}, {"not (a = 1)", 0, 0, ""}, {"a = 1 or b = 1", 0, 0, ""}, {"(a = 1) is null", 0, 0, ""},
		// Only conjuncts are held, not what is in them.
		{"a = 1 and b = 1", 0, 0, ""}, {"(a = 1) = 1", 0, 0, ""}, {"b + a = 1", 0, 0, ""}, {"-a = 1", 0, 0, ""}, {"(a = 1) = b", 1, 1, "a = 1"},
		// The first one counts.
		{"a = 1;a = 2", 0, 0, "1"}, {"b = 1;a = 2;3 = a", 0, 0, "2"}, {"a = b;3 = a;a = 4", 0, 0, "3"}, {"a < 5;a = b;a;not a;a = 6", 0, 0, "6"},
		// The other argument uses slots of tables ahead only.
		{"a = b", 0, 0, ""}, {"a = b", 1, 0, ""}, {"a = a", 0, 0, ""}, {"e = a", 4, 4, "a"}, {"a = e", 4, 4, "a"}, {"a = e", 0, 0, ""}, {"e = d", 4, 4, "d"}, {"e = f", 4, 4, ""}, {"e = f", 5, 4, ""}, {"e = a + f", 4, 4, ""}, {"e = a + e", 4, 4, ""}, {"e = a + d * b", 4, 4, "a + d * b"}, {"f = -c", 5, 4, "-c"}, {"c + d = f", 5, 4, "c + d"}, {"e = sum(f)", 4, 4, ""}, {"e = sum(a)", 4, 4, "sum(a)"}, {"e = (f is null)", 4, 4, ""}, {"e = overlaps(a, b, c, g)", 4, 4, ""}, {"e = overlaps(a, b, c, d)", 4, 4, "overlaps(a, b, c, d)"},
		{"e = a;a = e", 0, 4, ""}, {"e = a", 4, 0, ""}, {"e = a", 4, 1, "a"}, {"e = b", 4, 1, ""}, {"e = 5", 4, 0, "5"}, {"e = 5", 4, -1, "5"}, {"e = a", 4, -1, ""}, {"e = 5", 4, math.MinInt, "5"}, {"a = g", 0, 7, "g"}, {"a = g", 0, 6, ""}, {"a = g", 0, math.MaxInt, "g"},
		// By hand: both may qualify, as the slot is below.
		{"a = b", 0, 4, "b"}, {"a = b", 1, 4, "a"}, {"b = a", 0, 4, "b"}, {"a = a", 0, 4, "a"},
		{"a = 1", -1, 0, ""}, {"a = 1", math.MaxInt, 0, ""}, {"a = 1", math.MinInt, 0, ""}, {"a = 1", 1 << 32, 0, ""},
	} {
		var want node
		if c.want != "" {
			want = bound(t, c.want)
		}
		n, some := plan.Equal(bounds(t, c.parts), c.slot, c.first)
		if !equal(n, want) || some != (c.want != "") {
			t.Errorf("Equal(%s, %d, %d) = %+v %v, want %s", c.parts, c.slot, c.first, n, some, c.want)
		}
	}
}

func TestP24_1EqualByHand(t *testing.T) {
	a, one := col(0), lit(1)
	for i, n := range []node{
		{}, of(4, "="), of(4, "=", a), of(4, "=", a, one, one), of(4, "=", one, one, a), of(3, "=", a, one), of(5, "=", a, one), of(6, "=", a, one), of(7, "=", a, one), of(1, "=", a, one), of(2, "=", a, one), of(0, "=", a, one), of(256+4, "=", a, one), of(4, "==", a, one), of(4, "", a, one), of(4, "<=", a, one), of(4, "=", node{Kind: 1, Slot: 0}, one), of(4, "=", node{Kind: 3, Slot: 0}, one), of(4, "=", node{}, node{}), of(4, "=", a, of(99, "?", col(0))), of(4, "=", a, node{Kind: 1, Args: nodes{a}}),
	} {
		if got, some := plan.Equal(nodes{n}, 0, 0); some || !equal(got, node{}) {
			t.Errorf("%d: Equal = %+v %v", i, got, some)
		}
		if got, some := plan.Equal(nodes{n, is(a, lit(7)), n}, 0, 0); !some || !equal(got, lit(7)) {
			t.Errorf("%d: Equal = %+v %v", i, got, some)
		}
	}
	// The result may be anything, and slots are only compared.
	for i, n := range []node{{}, {Kind: 99, Op: "?", Slot: 5, Type: 8, Value: value{Kind: 9}}, of(4, "/", one, lit(0)), col(-1), col(math.MinInt), {Kind: 1, Slot: 9}, of(6, "sum", col(-3)), {Kind: 2, Slot: -2, Op: "x", Args: nodes{one}}} {
		for _, part := range []node{is(a, n), is(n, a), {Kind: 4, Op: "=", Slot: 3, Type: 9, Value: value{Kind: 8}, Args: nodes{n, a}}} {
			if got, some := plan.Equal(nodes{part}, 0, 0); !some || !equal(got, n) {
				t.Errorf("%d: Equal = %+v %v", i, got, some)
			}
		}
	}
	least, most := col(math.MinInt), col(math.MaxInt)
	if got, some := plan.Equal(nodes{is(least, one)}, math.MinInt, math.MinInt); !some || !equal(got, one) {
		t.Errorf("Equal of the least slot = %+v %v", got, some)
	}
	if got, some := plan.Equal(nodes{is(most, least)}, math.MaxInt, math.MaxInt); !some || !equal(got, least) {
		t.Errorf("Equal of the greatest slot = %+v %v", got, some)
	}
	// Both arguments qualify: the result is the second one.
	first, second := node{Kind: 2, Slot: 1, Type: 1}, node{Kind: 2, Slot: 1, Type: 2}
	if got, some := plan.Equal(nodes{is(first, second)}, 1, 2); !some || !equal(got, second) {
		t.Errorf("Equal = %+v %v", got, some)
	}
	if got, some := plan.Equal(nodes{is(second, first)}, 1, 2); !some || !equal(got, first) {
		t.Errorf("Equal = %+v %v", got, some)
	}
}

// equation is the result of the first equation by the chapter's definition.
func equation(parts nodes, slot, first int) (node, bool) {
	for _, p := range parts {
		if p.Kind != 4 || p.Op != "=" || len(p.Args) != 2 {
			continue
		}
		for _, which := range []int{1, 0} {
			column, other, good := p.Args[1-which], p.Args[which], true
			for _, used := range typing.Used(other) {
				good = good && used < first
			}
			if good && column.Kind == 2 && column.Slot == slot {
				return other, true
			}
		}
	}
	return node{}, false
}

// conjuncts are those of a node by the chapter's definition.
func conjuncts(n node) nodes {
	if n.Kind == 4 && n.Op == "and" && len(n.Args) == 2 {
		return append(conjuncts(n.Args[0]), conjuncts(n.Args[1])...)
	}
	return nodes{n}
}

// safe is whether a node is safe by the chapter's definition.
func safe(n node) bool {
	return safeAlone(n) && !slices.ContainsFunc(n.Args, func(x node) bool { return !safe(x) })
}

func TestP24_1ByChance(t *testing.T) {
	next, found, many, unsafe := chance(24), 0, 0, 0
	for range 30000 {
		n := next.condition(1+next.below(6), 1+next.below(5))
		before := copied(n)
		if plan.Safe(n) != safe(n) {
			t.Fatalf("Safe(%+v) = %v", n, plan.Safe(n))
		}
		if !safe(n) {
			unsafe++
		}
		parts := plan.Parts(n)
		if !equalAll(parts, conjuncts(n)) {
			t.Fatalf("Parts(%+v) = %+v", n, parts)
		}
		if len(parts) > 2 {
			many++
		}
		slot, first := next.below(9)-1, next.below(9)-1
		got, some := plan.Equal(parts, slot, first)
		want, is := equation(parts, slot, first)
		if some != is || !equal(got, want) {
			t.Fatalf("Equal(%+v, %d, %d) = %+v %v, want %+v %v", parts, slot, first, got, some, want, is)
		}
		if some {
			found++
		}
		// What is handed out is spoilt, without a change to what was handed in.
		partsBefore := copiedAll(parts)
		spoil(nodes{got})
		spoil(got.Args)
		if !equalAll(parts, partsBefore) {
			t.Fatalf("the result of Equal shares memory")
		}
		spoil(parts)
		if !equal(n, before) {
			t.Fatalf("the parts share memory with %+v", before)
		}
	}
	if found < 1500 || many < 2000 || unsafe < 1000 {
		t.Errorf("%d equations, %d nodes with parts, %d unsafe ones", found, many, unsafe)
	}
}

// TestP24_4Conjuncts holds that a node is true exactly if all its conjuncts are.
func TestP24_4Conjuncts(t *testing.T) {
	next, yes := chance(6), 0
	for range 60000 {
		n := next.condition(1+next.below(3), 1+next.below(4))
		var row values
		for range 7 {
			row = append(row, []value{{}, number(0), number(1), number(1), number(2), {Kind: 2, Text: "a"}, {Kind: 9}}[next.below(5)+next.below(20)/19*2])
		}
		whole, _ := eval.True(n, row)
		all := true
		for _, part := range plan.Parts(n) {
			is, _ := eval.True(part, row)
			all = all && is
		}
		if whole != all {
			t.Fatalf("%+v is %v, its conjuncts %v", n, whole, all)
		}
		if whole && len(plan.Parts(n)) > 1 {
			yes++
		}
	}
	if yes < 1000 {
		t.Errorf("only %d are true", yes)
	}
}
