package plan_test

import (
	"math"
	"slices"
	"testing"

	"hindsight/plan"
	"hindsight/typing"
)

// two are the tables of the scope: t with a key of these columns and indexes on those, and u with the key e and an index on f.
func two(key, indexed []int) tables {
	return tables{{First: 0, Columns: 4, Key: key, Indexed: indexed, Now: true}, {First: 4, Columns: 3, Key: []int{0}, Indexed: []int{1}, Now: true}}
}

func TestP24_2Steps(t *testing.T) {
	for _, c := range []struct {
		key, indexed []int
		conditions   string
		want         steps
	}{
		{[]int{0}, nil, "", steps{{}, {}}},
		{[]int{0}, nil, "a = 1", steps{{Kind: 1, Nodes: bounds(t, "1")}, {}}},
		{[]int{0}, nil, "1 = a", steps{{Kind: 1, Nodes: bounds(t, "1")}, {}}},
		{[]int{0}, nil, "a = 1 and b = 2", steps{{Kind: 1, Nodes: bounds(t, "1")}, {}}},
		{[]int{0}, nil, "b = 2;c = 3 and (d = 4 and a = 1)", steps{{Kind: 1, Nodes: bounds(t, "1")}, {}}},
		{[]int{0}, nil, "a = 1 or b = 2", steps{{}, {}}},
		{[]int{0}, nil, "a < 1", steps{{}, {}}},
		{[]int{0}, nil, "b = 1", steps{{}, {}}},
		{[]int{0}, nil, "a = b", steps{{}, {}}},
		{[]int{0}, nil, "a = 1;a = 2", steps{{Kind: 1, Nodes: bounds(t, "1")}, {}}},
		{[]int{0}, nil, "a = e", steps{{}, {Kind: 1, Nodes: bounds(t, "a")}}},
		{[]int{0}, nil, "e = a", steps{{}, {Kind: 1, Nodes: bounds(t, "a")}}},
		{[]int{0}, nil, "e = a and a = 7", steps{{Kind: 1, Nodes: bounds(t, "7")}, {Kind: 1, Nodes: bounds(t, "a")}}},
		{[]int{0}, nil, "f = a", steps{{}, {Kind: 2, Column: 1, Nodes: bounds(t, "a")}}},
		{[]int{0}, nil, "f = a;e = b", steps{{}, {Kind: 1, Nodes: bounds(t, "b")}}},
		{[]int{0}, nil, "e = f", steps{{}, {}}},
		{[]int{0}, nil, "g = 1", steps{{}, {}}},
		{[]int{0}, nil, "e = (a is null)", steps{{}, {Kind: 1, Nodes: bounds(t, "a is null")}}},
		// A key of several columns, in the order of the key.
		{[]int{1, 0}, nil, "a = 1;b = 2", steps{{Kind: 1, Nodes: bounds(t, "2;1")}, {}}},
		{[]int{0, 1}, nil, "a = 1;b = 2", steps{{Kind: 1, Nodes: bounds(t, "1;2")}, {}}},
		{[]int{0, 2, 3}, nil, "2 = d and a = 1 and null = c", steps{{Kind: 1, Nodes: bounds(t, "1;null;2")}, {}}},
		{[]int{0, 1}, nil, "a = 1", steps{{}, {}}},
		{[]int{0, 1}, nil, "b = 1", steps{{}, {}}},
		{[]int{0, 1}, nil, "a = 1 and b = a", steps{{}, {}}},
		{[]int{0, 0}, nil, "a = 1 and a = 2", steps{{Kind: 1, Nodes: bounds(t, "1;1")}, {}}},
		{[]int{3}, nil, "d = 1", steps{{Kind: 1, Nodes: bounds(t, "1")}, {}}},
		// By an index only without the key, and by the first one.
		{[]int{0}, []int{1}, "a = 1 and b = 2", steps{{Kind: 1, Nodes: bounds(t, "1")}, {}}},
		{[]int{0}, []int{1}, "b = 2", steps{{Kind: 2, Column: 1, Nodes: bounds(t, "2")}, {}}},
		{[]int{0}, []int{1, 2, 3}, "d = 4 and c = 3", steps{{Kind: 2, Column: 2, Nodes: bounds(t, "3")}, {}}},
		{[]int{0}, []int{1, 2, 3}, "c = 3;d = 4", steps{{Kind: 2, Column: 2, Nodes: bounds(t, "3")}, {}}},
		{[]int{0}, []int{3, 2}, "c = 3;d = 4", steps{{Kind: 2, Column: 3, Nodes: bounds(t, "4")}, {}}},
		{[]int{0, 1}, []int{0, 1}, "b = 2", steps{{Kind: 2, Column: 1, Nodes: bounds(t, "2")}, {}}},
		{[]int{0, 1}, []int{0}, "a = 5", steps{{Kind: 2, Nodes: bounds(t, "5")}, {}}},
		{[]int{0}, []int{1}, "c = 2", steps{{}, {}}},
		{[]int{0}, []int{1}, "b = c", steps{{}, {}}},
		// One condition that is not safe stands for all tables, whatever it is about.
		{[]int{0}, []int{1}, "a = 1;e = 2;1 + 1", steps{{}, {}}},
		{[]int{0}, []int{1}, "a = -1", steps{{}, {}}},
		{[]int{0}, []int{1}, "a = 1 and e = 2 and g = 3 / 1", steps{{}, {}}},
		{[]int{0}, []int{1}, "count(*);a = 1", steps{{}, {}}},
		{[]int{0}, []int{1}, "a = 1;null;0;'x'", steps{{Kind: 1, Nodes: bounds(t, "1")}, {}}},
		// Without a key there is no path, not even by an index.
		{nil, []int{1}, "b = 1;e = 1", steps{{}, {Kind: 1, Nodes: bounds(t, "1")}}},
		{[]int{}, []int{1}, "b = 1", steps{{}, {}}},
		// Columns that are not there.
		{[]int{4}, nil, "e = 1", steps{{}, {Kind: 1, Nodes: bounds(t, "1")}}},
		{[]int{0, 4}, nil, "a = 1;e = 1", steps{{}, {Kind: 1, Nodes: bounds(t, "1")}}},
		{[]int{-1}, nil, "a = 1", steps{{}, {}}},
		{[]int{0, -1}, nil, "a = 1", steps{{}, {}}},
		{[]int{0}, []int{4}, "a = 1", steps{{}, {}}},
		{[]int{0}, []int{1, -1}, "a = 1", steps{{}, {}}},
		{[]int{0}, []int{math.MaxInt}, "a = 1", steps{{}, {}}},
		{[]int{0}, []int{math.MinInt}, "a = 1", steps{{}, {}}},
	} {
		if got := plan.Steps(two(c.key, c.indexed), bounds(t, c.conditions)); !equalSteps(got, c.want) {
			t.Errorf("Steps(%v %v, %s) = %+v, want %+v", c.key, c.indexed, c.conditions, got, c.want)
		}
	}
}

func TestP24_2Tables(t *testing.T) {
	conditions := bounds(t, "a = 1;b = 2")
	for i, c := range []struct {
		l    tables
		want steps
	}{
		{nil, nil},
		{tables{}, nil},
		{tables{{}}, steps{{}}},
		{tables{{Columns: 2, Key: []int{0}}}, steps{{}}},
		{tables{{Columns: 2, Key: []int{0}, Now: true}}, steps{{Kind: 1, Nodes: nodes{lit(1)}}}},
		{tables{{Columns: 2, Key: []int{0}, Now: true}, {Columns: 2, Key: []int{0}}, {Columns: 2, Key: []int{1}, Now: true}}, steps{{Kind: 1, Nodes: nodes{lit(1)}}, {}, {Kind: 1, Nodes: nodes{lit(2)}}}},
		{tables{{Columns: 2, Key: []int{0}, Indexed: []int{1}}}, steps{{}}},
		{tables{{Columns: 1, Key: []int{0}, Now: true}}, steps{{Kind: 1, Nodes: nodes{lit(1)}}}},
		{tables{{Columns: 0, Key: []int{0}, Now: true}}, steps{{}}},
		{tables{{Columns: -1, Key: []int{0}, Now: true}}, steps{{}}},
		{tables{{Columns: math.MinInt, Key: []int{0}, Now: true}}, steps{{}}},
		{tables{{Columns: math.MaxInt, Key: []int{0}, Indexed: []int{math.MaxInt - 1}, Now: true}}, steps{{Kind: 1, Nodes: nodes{lit(1)}}}},
		{tables{{Columns: math.MaxInt, Key: []int{0}, Indexed: []int{math.MaxInt}, Now: true}}, steps{{}}},
		{tables{{First: -1, Columns: 3, Key: []int{1}, Now: true}}, steps{{Kind: 1, Nodes: nodes{lit(1)}}}},
		{tables{{First: -5, Columns: 7, Key: []int{6}, Indexed: []int{5}, Now: true}}, steps{{Kind: 1, Nodes: nodes{lit(2)}}}},
		{tables{{First: 1, Columns: 2, Key: []int{0}, Now: true}}, steps{{Kind: 1, Nodes: nodes{lit(2)}}}},
		{tables{{First: 2, Columns: 2, Key: []int{0}, Now: true}}, steps{{}}},
		{tables{{First: 2, Columns: 2, Key: []int{-1}, Now: true}}, steps{{}}},
	} {
		if got := plan.Steps(c.l, conditions); !equalSteps(got, c.want) {
			t.Errorf("%d: Steps = %+v, want %+v", i, got, c.want)
		}
	}
}

// TestP24_2Slots has tables at the end of the integers: a sum that would overflow is the slot of no column.
func TestP24_2Slots(t *testing.T) {
	one := lit(1)
	ends := nodes{is(col(math.MaxInt), one), is(col(math.MinInt), lit(2)), is(col(math.MinInt+1), lit(3)), is(col(-1), lit(4)), is(col(-2), lit(5))}
	for i, c := range []struct {
		l    table
		want step
	}{
		{table{First: math.MaxInt, Columns: 3, Key: []int{0}, Now: true}, step{Kind: 1, Nodes: nodes{one}}},
		{table{First: math.MaxInt, Columns: 3, Key: []int{1}, Now: true}, step{}},
		{table{First: math.MaxInt, Columns: 3, Key: []int{2}, Now: true}, step{}},
		{table{First: math.MaxInt, Columns: 3, Key: []int{1}, Indexed: []int{0, 1}, Now: true}, step{Kind: 2, Nodes: nodes{one}}},
		{table{First: math.MaxInt, Columns: 3, Key: []int{1}, Indexed: []int{1, 2}, Now: true}, step{}},
		{table{First: math.MaxInt, Columns: math.MaxInt, Key: []int{math.MaxInt - 1}, Now: true}, step{}},
		{table{First: math.MaxInt - 1, Columns: 3, Key: []int{1}, Now: true}, step{Kind: 1, Nodes: nodes{one}}},
		{table{First: 1, Columns: math.MaxInt, Key: []int{math.MaxInt - 1}, Now: true}, step{Kind: 1, Nodes: nodes{one}}},
		{table{First: 2, Columns: math.MaxInt, Key: []int{math.MaxInt - 1}, Now: true}, step{}},
		{table{First: math.MinInt, Columns: 3, Key: []int{0}, Now: true}, step{Kind: 1, Nodes: nodes{lit(2)}}},
		{table{First: math.MinInt, Columns: 3, Key: []int{0, 1}, Now: true}, step{Kind: 1, Nodes: nodes{lit(2), lit(3)}}},
		{table{First: math.MinInt, Columns: math.MaxInt, Key: []int{math.MaxInt - 1}, Now: true}, step{Kind: 1, Nodes: nodes{lit(5)}}},
	} {
		if got := plan.Steps(tables{c.l}, ends); !equalSteps(got, steps{c.want}) {
			t.Errorf("%d: Steps = %+v, want %+v", i, got, c.want)
		}
	}
}

// TestP24_2Conditions has conditions without Kind, which are ignored, and ones that are not valid.
func TestP24_2Conditions(t *testing.T) {
	l := tables{{Columns: 2, Key: []int{0}, Indexed: []int{1}, Now: true}}
	key, byIndex := steps{{Kind: 1, Nodes: nodes{lit(1)}}}, steps{{Kind: 2, Column: 1, Nodes: nodes{lit(2)}}}
	a, b := is(col(0), lit(1)), is(lit(2), col(1))
	without := []node{{}, {Op: "and", Args: nodes{a, a}}, {Op: "=", Args: a.Args}, {Args: nodes{of(4, "/", a, b), {}}}, {Op: "/", Slot: 7, Type: 3, Value: value{Kind: 9}}}
	for i, n := range without {
		for _, c := range []struct {
			conditions nodes
			want       steps
		}{
			{nodes{n}, steps{{}}},
			{nodes{n, a}, key},
			{nodes{a, n}, key},
			{nodes{n, n, b, n, a, n}, key},
			{nodes{b, n}, byIndex},
			{nodes{a, n, of(3, "-", b)}, steps{{}}},
			// Inside a condition it is not ignored.
			{nodes{and(a, n)}, steps{{}}},
			{nodes{a, of(3, "not", n)}, steps{{}}},
		} {
			if got := plan.Steps(l, c.conditions); !equalSteps(got, c.want) {
				t.Errorf("%d: Steps(%+v) = %+v, want %+v", i, c.conditions, got, c.want)
			}
		}
	}
	for i, n := range []node{{Kind: -1}, {Kind: 8}, {Kind: math.MaxInt}, of(6, "count"), of(3, "not"), of(4, "=", a), of(4, "and", a), of(4, "and", a, b, a), of(5, "is", a), of(4, "not", a, b), of(7, "length", a)} {
		for _, conditions := range []nodes{{a, b, n}, {n, a}, {and(a, n)}} {
			if got := plan.Steps(l, conditions); !equalSteps(got, steps{{}}) {
				t.Errorf("%d: Steps(%+v) = %+v", i, conditions, got)
			}
		}
	}
}

// planned is a step by the chapter's definition.
func planned(l table, conditions nodes) step {
	var parts nodes
	for _, n := range conditions {
		if n.Kind == 0 {
			continue
		}
		if !safe(n) {
			return step{}
		}
		parts = append(parts, conjuncts(n)...)
	}
	for _, i := range append(slices.Clone(l.Key), l.Indexed...) {
		if i < 0 || i >= l.Columns {
			return step{}
		}
	}
	if !l.Now || len(l.Key) == 0 {
		return step{}
	}
	whole := step{Kind: 1}
	for _, i := range l.Key {
		if n, some := equation(parts, l.First+i, l.First); some {
			whole.Nodes = append(whole.Nodes, n)
		}
	}
	if len(whole.Nodes) == len(l.Key) {
		return whole
	}
	for _, i := range l.Indexed {
		if n, some := equation(parts, l.First+i, l.First); some {
			return step{Kind: 2, Column: i, Nodes: nodes{n}}
		}
	}
	return step{}
}

// table is a next table; most often its columns are there.
func (c *chance) table(first int) table {
	l := table{First: first, Columns: 1 + c.below(4), Now: c.below(5) > 0}
	for range c.below(3) + c.below(8)/7 {
		l.Key = append(l.Key, c.below(l.Columns))
	}
	for i := range l.Columns {
		if c.below(2) == 0 {
			l.Indexed = append(l.Indexed, i)
		}
	}
	if c.below(20) == 0 {
		l.Indexed = append(l.Indexed, l.Columns)
	}
	if c.below(20) == 0 {
		l.Key = append(l.Key, []int{-1, l.Columns}[c.below(2)])
	}
	return l
}

func TestP24_2ByChance(t *testing.T) {
	next, seen := chance(242), map[int]int{}
	for range 40000 {
		var l tables
		first := 0
		for range 1 + next.below(4) {
			l = append(l, next.table(first))
			first += l[len(l)-1].Columns
		}
		var conditions nodes
		for range next.below(4) {
			conditions = append(conditions, next.condition(1+next.below(6), 1+next.below(3)))
		}
		var want steps
		for _, one := range l {
			want = append(want, planned(one, conditions))
		}
		before := copiedAll(conditions)
		got := plan.Steps(l, conditions)
		if !equalSteps(got, want) {
			t.Fatalf("Steps(%+v, %+v) = %+v, want %+v", l, conditions, got, want)
		}
		for i, s := range got {
			seen[s.Kind]++
			for _, n := range s.Nodes {
				if used := typing.Used(n); len(used) > 0 && used[len(used)-1] >= l[i].First {
					t.Fatalf("P24.3: step %d of %+v uses %v", i, l, used)
				}
			}
			// Each node of the result is in memory of its own.
			spoil(s.Nodes)
			if !equalSteps(got[i+1:], want[i+1:]) {
				t.Fatal("two steps share memory")
			}
		}
		if !equalAll(conditions, before) {
			t.Fatal("the steps share memory with the conditions")
		}
	}
	if seen[1] < 2000 || seen[2] < 2000 {
		t.Errorf("few steps of each kind: %v", seen)
	}
}

// TestP24_2Memory spoils the tables and the conditions afterwards.
func TestP24_2Memory(t *testing.T) {
	key, indexed := []int{0, 0}, []int{1}
	conditions := nodes{and(is(col(0), of(4, "or", lit(1), lit(2))), col(1))}
	l := tables{{Columns: 2, Key: key, Indexed: indexed, Now: true}}
	got := plan.Steps(l, conditions)
	if !slices.Equal(key, []int{0, 0}) || !slices.Equal(indexed, []int{1}) || len(l) != 1 {
		t.Error("Steps changed the tables")
	}
	spoil(conditions)
	either := of(4, "or", lit(1), lit(2))
	if !equalSteps(got, steps{{Kind: 1, Nodes: nodes{either, either}}}) {
		t.Errorf("Steps = %+v", got)
	}
	spoil(got[0].Nodes[:1])
	if !equal(got[0].Nodes[1], either) {
		t.Errorf("two nodes share memory: %+v", got)
	}
}

func TestP1Plan(t *testing.T) {
	next := chance(11)
	number := func() int {
		return []int{math.MinInt, math.MinInt + 1, -2, -1, 0, 1, 2, 3, math.MaxInt - 1, math.MaxInt}[next.below(10)]
	}
	var any func(depth int) node
	any = func(depth int) node {
		n := node{Kind: next.below(7), Op: next.op("and = not or ? -"), Slot: number(), Type: uint8(next.below(5))}
		if depth > 1 {
			for range next.below(4) {
				n.Args = append(n.Args, any(depth-1))
			}
		}
		return n
	}
	for range 30000 {
		conditions := nodes{any(1 + next.below(4)), any(1 + next.below(3))}
		l := tables{{First: number(), Columns: number(), Key: []int{number(), number()}[next.below(2):], Indexed: []int{number(), number()}, Now: true}, {First: number(), Columns: number(), Key: []int{number()}, Now: next.below(2) == 0}}
		if got := plan.Steps(l, conditions); len(got) != len(l) {
			t.Fatalf("%d steps", len(got))
		}
		for _, n := range conditions {
			if plan.Safe(n) != safe(n) {
				t.Fatalf("Safe(%+v)", n)
			}
			slot, first := number(), number()
			got, some := plan.Equal(plan.Parts(n), slot, first)
			want, is := equation(conjuncts(n), slot, first)
			if some != is || !equal(got, want) {
				t.Fatalf("Equal(%+v, %d, %d) = %+v %v", n, slot, first, got, some)
			}
		}
	}
}
