package typing_test

import (
	"math"
	"slices"
	"testing"

	"hindsight/api"
	"hindsight/typing"
)

func TestP22_3Lift(t *testing.T) {
	i, one := slot(0, 1), node{Kind: 1, Value: api.Value{Kind: 1, Int: 1}, Type: 1}
	count, sumOf, least := node{Kind: 6, Op: "count", Type: 1}, node{Kind: 6, Op: "sum", Type: 1, Args: nodes{i}}, node{Kind: 6, Op: "min", Type: 2, Args: nodes{slot(1, 2)}}
	of := func(kind int, op string, args ...node) node { return node{Kind: kind, Op: op, Type: 1, Args: args} }
	for k, c := range []struct {
		n, want node
		from    int
		aggs    nodes
	}{
		{i, i, 5, nil},
		{one, one, 5, nil},
		{of(4, "+", i, one), of(4, "+", i, one), 5, nil},
		{node{}, node{}, 5, nil},
		{count, slot(5, 1), 5, nodes{count}},
		{least, slot(0, 2), 0, nodes{least}},
		{sumOf, slot(-3, 1), -3, nodes{sumOf}},
		{count, slot(math.MaxInt, 1), math.MaxInt, nodes{count}},
		{count, slot(math.MinInt, 1), math.MinInt, nodes{count}},
		{of(3, "-", sumOf), of(3, "-", slot(7, 1)), 7, nodes{sumOf}},
		{of(4, "/", sumOf, count), of(4, "/", slot(3, 1), slot(4, 1)), 3, nodes{sumOf, count}},
		{of(4, "/", count, sumOf), of(4, "/", slot(3, 1), slot(4, 1)), 3, nodes{count, sumOf}},
		// Equal ones are replaced one by one.
		{of(4, "+", count, count), of(4, "+", slot(3, 1), slot(4, 1)), 3, nodes{count, count}},
		{of(4, "+", of(4, "*", i, sumOf), of(7, "length", least)), of(4, "+", of(4, "*", i, slot(3, 1)), of(7, "length", slot(4, 2))), 3, nodes{sumOf, least}},
		{of(7, "overlaps", count, i, sumOf, of(3, "-", count)), of(7, "overlaps", slot(3, 1), i, slot(4, 1), of(3, "-", slot(5, 1))), 3, nodes{count, sumOf, count}},
		// By hand: one inside another one goes with it, and so do fields that an aggregate has not.
		{of(6, "sum", count), slot(3, 1), 3, nodes{of(6, "sum", count)}},
		{of(4, "+", of(6, "sum", count), count), of(4, "+", slot(3, 1), slot(4, 1)), 3, nodes{of(6, "sum", count), count}},
		{node{Kind: 6, Op: "x", Value: one.Value, Slot: 8, Type: 9}, slot(3, 9), 3, nodes{{Kind: 6, Op: "x", Value: one.Value, Slot: 8, Type: 9}}},
		{node{Kind: 2, Slot: 1, Args: nodes{count}}, node{Kind: 2, Slot: 1, Args: nodes{slot(3, 1)}}, 3, nodes{count}},
		{node{Kind: 99, Op: "?", Value: one.Value, Slot: -1, Type: 8, Args: nodes{count, {Kind: -1}}}, node{Kind: 99, Op: "?", Value: one.Value, Slot: -1, Type: 8, Args: nodes{slot(3, 1), {Kind: -1}}}, 3, nodes{count}},
	} {
		n, aggs := typing.Lift(c.n, c.from)
		if !equal(n, c.want) || !equalAll(aggs, c.aggs) {
			t.Errorf("%d: Lift = %+v %+v, want %+v %+v", k, n, aggs, c.want, c.aggs)
		}
	}
}

func TestP22_3Plain(t *testing.T) {
	for s, want := range map[string]bool{
		"1": true, "null": true, "'a'": true, "-1": true, "1 + 2 * 3": true, "length('a') is null": true, "overlaps(1, 2, 3, 4)": true, "not (null or 1)": true,
		"i": false, "-i": false, "1 + i": false, "i + 1": false, "t is null": false, "overlaps(1, 2, 3, i)": false, "length(b)": false,
		"count(*)": false, "count(1)": false, "sum(i)": false, "1 + count(*)": false, "max(1) + 1": false, "not (count(*) is null)": false, "i + count(*)": false,
	} {
		if typing.Plain(bound(t, s, letters())) != want {
			t.Errorf("Plain(%s) = %v", s, !want)
		}
	}
	for i, n := range []node{{}, {Kind: 99}, {Kind: 1, Slot: 5}, {Kind: 3, Args: nodes{{}, {Kind: -1}}}, {Kind: 256 + 2}} {
		if !typing.Plain(n) {
			t.Errorf("%d is not plain", i)
		}
		for _, inner := range []node{slot(0, 1), {Kind: 6}} {
			with := n
			with.Args = append(nodes{{}}, node{Kind: 77, Args: nodes{inner, {}}}, node{})
			if typing.Plain(with) {
				t.Errorf("%d is plain with %v", i, inner)
			}
		}
	}
}

func TestP22_3Used(t *testing.T) {
	l := scope{from("t", "iitb", true, "a", "b", "c", "d"), from("u", "ii", false, "e", "f")}
	for s, want := range map[string][]int{
		"1": nil, "count(*)": nil, "null || 'a'": nil, "a": {0}, "f": {7}, "-sys_from": {4}, "a + a": {0}, "b + a": {0, 1}, "f * e - b + sys_to": {1, 5, 6, 7}, "f + a + f + a": {0, 7}, "sum(e) + max(b)": {1, 6}, "length(c || c) + length(d)": {2, 3}, "overlaps(f, e, b, a)": {0, 1, 6, 7}, "contains(e, e, e, e)": {6}, "d is null or c is not null": {2, 3}, "a = 1 and count(a) = 2": {0},
	} {
		if got := typing.Used(bound(t, s, l)); !slices.Equal(got, want) {
			t.Errorf("Used(%s) = %v, want %v", s, got, want)
		}
	}
	for i, c := range []struct {
		n    node
		want []int
	}{
		{node{}, nil},
		{node{Kind: 1, Slot: 4}, nil},
		{node{Kind: 6, Slot: 4}, nil},
		{slot(-7, 0), []int{-7}},
		{node{Kind: 99, Args: nodes{slot(math.MaxInt, 1), slot(math.MinInt, 1), slot(0, 1), slot(math.MaxInt, 9)}}, []int{math.MinInt, 0, math.MaxInt}},
		{node{Kind: 2, Slot: 3, Args: nodes{slot(1, 1), {Kind: 1, Slot: 2, Args: nodes{slot(5, 1)}}}}, []int{1, 3, 5}},
	} {
		if got := typing.Used(c.n); !slices.Equal(got, c.want) {
			t.Errorf("%d: Used = %v, want %v", i, got, c.want)
		}
	}
}

// node is a next node of any kind, made by hand.
func (c *chance) node(depth int) node {
	n := node{Kind: c.below(9) - 1, Op: c.of([]string{"", "-", "count"}), Slot: c.below(7) - 2, Type: uint8(c.below(5)), Value: api.Value{Kind: uint8(c.below(3))}}
	if depth > 1 {
		for range c.below(4) {
			n.Args = append(n.Args, c.node(depth-1))
		}
	}
	return n
}

// TestP22_3ByDefinition has nodes by chance, and all nodes in them as a list.
func TestP22_3ByDefinition(t *testing.T) {
	next := chance(10)
	for range 5000 {
		n := next.node(1 + next.below(5))
		var all, outer nodes
		var list func(n node, inside bool)
		list = func(n node, inside bool) {
			all = append(all, n)
			if n.Kind == 6 && !inside {
				outer = append(outer, n)
			}
			for _, x := range n.Args {
				list(x, inside || n.Kind == 6)
			}
		}
		list(n, false)
		plain, slots := true, map[int]bool{}
		for _, x := range all {
			plain = plain && x.Kind != 2 && x.Kind != 6
			if x.Kind == 2 {
				slots[x.Slot] = true
			}
		}
		var used []int
		for i := -2; i < 5; i++ {
			if slots[i] {
				used = append(used, i)
			}
		}
		if typing.Plain(n) != plain || !slices.Equal(typing.Used(n), used) {
			t.Fatalf("%v: Plain = %v, Used = %v", n, typing.Plain(n), typing.Used(n))
		}
		lifted, aggs := typing.Lift(n, 100)
		if !equalAll(aggs, outer) || !equal(lowered(lifted, outer), n) || hasAggregate(lifted) {
			t.Fatalf("Lift(%v) = %v %v", n, lifted, aggs)
		}
	}
}

// lowered is n with the aggregates again in place of the columns from slot 100 on.
func lowered(n node, aggs nodes) node {
	if i := n.Slot - 100; n.Kind == 2 && i >= 0 && i < len(aggs) {
		if !equal(n, slot(n.Slot, aggs[i].Type)) {
			return node{}
		}
		return aggs[i]
	}
	args := nodes{}
	for _, x := range n.Args {
		args = append(args, lowered(x, aggs))
	}
	n.Args = args
	return n
}

// TestP1Nodes has nodes as deep as they can be.
func TestP1Nodes(t *testing.T) {
	n := node{Kind: 6, Op: "count", Type: 1, Args: nodes{slot(4, 1)}}
	for range 1 << 16 {
		n = node{Kind: 3, Op: "-", Type: 1, Args: nodes{n}}
	}
	if typing.Plain(n) || !slices.Equal(typing.Used(n), []int{4}) {
		t.Errorf("Plain = %v, Used = %v", typing.Plain(n), typing.Used(n))
	}
	lifted, aggs := typing.Lift(n, 9)
	if len(aggs) != 1 || !slices.Equal(typing.Used(lifted), []int{9}) {
		t.Errorf("Lift: %d aggregates, slots %v", len(aggs), typing.Used(lifted))
	}
}

// TestP1LiftMemory holds that results share no memory with arguments, nor with each other, and that nothing behind a list is read.
func TestP1LiftMemory(t *testing.T) {
	n := bound(t, "overlaps(i, sum(-i), max(i), -i) and not sum(i + 1)", letters())
	before := bound(t, "overlaps(i, sum(-i), max(i), -i) and not sum(i + 1)", letters())
	long := append(n.Args, node{Kind: 6, Op: "count"})
	n.Args = long[:2]
	lifted, aggs := typing.Lift(n, 3)
	again, aggsAgain := typing.Lift(before, 3)
	if len(aggs) != 3 {
		t.Fatalf("%d aggregates", len(aggs))
	}
	lifted.Args[0].Args[3].Args[0].Slot = 77
	aggs[0].Args[0].Args[0].Slot = 78
	aggs[1].Args[0].Slot = 79
	if !equal(n, before) || !equalAll(long[2:], nodes{{Kind: 6, Op: "count"}}) {
		t.Errorf("%v became %v", before, n)
	}
	n.Args[0].Args[1].Args[0].Args[0].Slot = 80
	lifted, aggs = typing.Lift(before, 3)
	if !equal(lifted, again) || !equalAll(aggs, aggsAgain) {
		t.Errorf("%v %v became %v %v", again, aggsAgain, lifted, aggs)
	}
	one := node{Kind: 6, Op: "sum", Type: 1, Args: nodes{slot(0, 1)}}
	_, aggs = typing.Lift(node{Kind: 4, Op: "+", Args: nodes{one, one}}, 0)
	aggs[0].Args[0].Slot = 5
	if aggs[1].Args[0].Slot != 0 || one.Args[0].Slot != 0 {
		t.Errorf("%v shares memory", aggs)
	}
}
