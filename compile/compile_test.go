package compile_test

import (
	"math"
	"slices"
	"strconv"
	"strings"
	"testing"

	"hindsight/api"
	"hindsight/code"
	"hindsight/compile"
)

func TestP26_1Programs(t *testing.T) {
	for _, c := range []struct {
		s, code string
		consts  values
	}{
		{"1", "const 0", values{number(1)}}, {"null", "const 0", values{{}}}, {"'a'", "const 0", values{text("a")}}, {"x'61'", "const 0", values{blob("a")}}, {"i", "slot 0", nil}, {"c", "slot 5", nil},
		{"1 + 1", "const 0;const 0;binary +", values{number(1)}}, {"i + 1", "slot 0;const 0;binary +", values{number(1)}}, {"1 - i", "const 0;slot 0;binary -", values{number(1)}},
		{"-i", "slot 0;unary -", nil}, {"not j", "slot 1;unary not", nil}, {"s is null", "slot 2;unary is null", nil}, {"s is not null", "slot 2;unary is not null", nil}, {"length(b)", "slot 4;unary length", nil},
		{"overlaps(i, j, 3, 4)", "slot 0;slot 1;const 0;const 1;four overlaps", values{number(3), number(4)}}, {"contains(4, 4, j, 4)", "const 0;const 0;slot 1;const 0;four contains", values{number(4)}},
		// The first argument first, whatever there is in it; constants in the order in which they are pushed.
		{"1 + 2 * 3", "const 0;const 1;const 2;binary *;binary +", values{number(1), number(2), number(3)}}, {"(1 + 2) * 3", "const 0;const 1;binary +;const 2;binary *", values{number(1), number(2), number(3)}}, {"3 < 1 + 3", "const 0;const 1;const 0;binary +;binary <", values{number(3), number(1)}},
		{"i = 1 and s like 'a%' or j is null", "slot 0;const 0;binary =;slot 2;const 1;binary like;binary and;slot 1;unary is null;binary or", values{number(1), text("a%")}},
		{"length('a' || 'b') = 2 or length(x'61' || x'62') = 2", "const 0;const 1;binary ||;unary length;const 2;binary =;const 3;const 4;binary ||;unary length;const 2;binary =;binary or", values{text("a"), text("b"), number(2), blob("a"), blob("b")}},
		{"not not -i", "slot 0;unary -;unary not;unary not", nil}, {"null is null and null is null", "const 0;unary is null;const 0;unary is null;binary and", values{{}}},
	} {
		if p, err := compile.Compile(bound(t, c.s)); err != api.OK || code.Text(p) != strings.ReplaceAll(c.code, ";", "\n")+"\n" || !slices.Equal(p.Consts, c.consts) {
			t.Errorf("%s is %q of %v %v, want %q of %v", c.s, code.Text(p), p.Consts, err, c.code, c.consts)
		}
	}
}

// TestP26_1Ops has each kind with each operation and number of arguments, alone and within other nodes.
func TestP26_1Ops(t *testing.T) {
	count := 0
	for kind := -1; kind < 10; kind++ {
		for _, op := range strings.Split("or;and;=;<>;<;<=;>;>=;like;||;+;-;*;/;%;not;is null;is not null;count;sum;min;max;length;overlaps;contains;;!=;IS NULL;const;slot", ";") {
			for arguments := range 6 {
				n := of(kind, op)
				for range arguments {
					n.Args = append(n.Args, col(arguments))
				}
				want, err := expected(n)
				holds(t, n, want, err)
				if err != api.OK {
					fails(t, chain(3, of(4, "=", n, col(0))), api.ErrForm)
					continue
				}
				count++
				if kind > 2 && want.Code[arguments] != operation(kind, op, arguments) {
					t.Errorf("%v is not the last instruction of %v", operation(kind, op, arguments), want)
				}
			}
		}
	}
	if count != 2*30+22 {
		t.Errorf("%d of them have a program", count)
	}
}

func TestP26_1Form(t *testing.T) {
	for _, n := range wrong() {
		fails(t, n, api.ErrForm)
		for _, kind := range []int{3, 4, 5, 7} {
			for _, count := range []int{1, 2, 4} {
				for op := range strings.SplitSeq(operations(kind, count), ";") {
					for i := range count {
						m := of(kind, op)
						for range count {
							m.Args = append(m.Args, lit(number(1)))
						}
						if m.Args[i] = n; op != "" {
							fails(t, m, api.ErrForm)
						}
					}
				}
			}
		}
		fails(t, chain(500, n), api.ErrForm)
		fails(t, right(50, func(i int) node { return []node{col(0), n}[i/49] }), api.ErrForm)
		fails(t, left(50, func(i int) node { return []node{n, col(0)}[(i+48)/49] }), api.ErrForm)
		// Also where the program would not be valid, ahead of it or behind it.
		for _, m := range (nodes{col(1000), col(-1), lit(value{Int: 1}), chain(4000, col(0)), right(101, same), left(201, different)}) {
			fails(t, of(4, "and", m, n), api.ErrForm)
			fails(t, of(4, "and", n, m), api.ErrForm)
		}
		fails(t, node{Kind: 3, Op: "not", Args: nodes{n, n}}, api.ErrForm)
	}
	// An aggregate deep within a node.
	fails(t, bound(t, "1 + length('a' || min(s))"), api.ErrForm)
	fails(t, bound(t, "count(*)"), api.ErrForm)
	fails(t, bound(t, "not (i = 1 or overlaps(1, 2, 3, count(*)))"), api.ErrForm)
	// Nodes that are valid of themselves do not make the one above them valid.
	for _, kind := range []int{0, 1, 2, 6} {
		fails(t, of(kind, "sum", col(0)), api.ErrForm)
	}
	long := of(3, "-", make(nodes, 100000)...)
	fails(t, long, api.ErrForm)
}

// TestP26_1Leaves has literals and columns, and others, with fields that are not theirs.
func TestP26_1Leaves(t *testing.T) {
	for _, v := range valid() {
		for _, n := range (nodes{lit(v), {Kind: 1, Value: v}, {Kind: 1, Value: v, Op: "count", Slot: -7, Type: 99, Args: nodes{}}, {Kind: 1, Value: v, Op: "-"}, {Kind: 1, Value: v, Args: nodes{{}}[:0]}}) {
			holds(t, n, with(values{v}, constant(0)), api.OK)
		}
		for _, n := range (nodes{{Kind: 2, Slot: 4, Op: "length", Value: v, Type: 99}, {Kind: 2, Slot: 4, Op: "?", Value: value{Kind: 9}, Args: nodes{}}}) {
			holds(t, n, with(nil, slot(4)), api.OK)
		}
		holds(t, node{Kind: 3, Op: "-", Value: v, Slot: 1000, Type: 9, Args: nodes{col(1)}}, with(nil, slot(1), unary(0)), api.OK)
	}
	// The fields of others are no constants, whether they are valid or not.
	holds(t, node{Kind: 4, Op: "=", Value: value{Kind: 9}, Slot: -1, Args: nodes{{Kind: 2, Value: value{Kind: 8}}, {Kind: 1, Slot: 5000}}}, with(values{{}}, slot(0), constant(0), binary(2)), api.OK)
}

func TestP26_1Long(t *testing.T) {
	for _, v := range invalid() {
		fails(t, lit(v), api.ErrLong)
		fails(t, node{Kind: 1, Value: v, Op: "-"}, api.ErrLong)
		fails(t, of(4, "=", lit(number(1)), of(5, "is null", lit(v))), api.ErrLong)
	}
	for _, place := range []int{math.MinInt, -1, 1000, 1001, 1 << 32, math.MaxInt} {
		fails(t, col(place), api.ErrLong)
		fails(t, of(4, "=", lit(number(1)), of(3, "not", col(place))), api.ErrLong)
	}
	for _, place := range []int{0, 998, 999} {
		holds(t, col(place), with(nil, slot(place)), api.OK)
	}
	for _, c := range []struct {
		n   node
		err api.Errno
	}{
		{chain(3998, col(0)), api.OK}, {chain(3999, col(0)), api.OK}, {chain(4000, col(0)), api.ErrLong}, {chain(1<<16-1, col(0)), api.ErrLong},
		{left(2000, same), api.OK}, {of(3, "-", left(2000, same)), api.OK}, {of(3, "-", of(3, "-", left(2000, same))), api.ErrLong}, {left(2001, same), api.ErrLong},
		{left(200, different), api.OK}, {left(201, different), api.ErrLong}, {of(4, "=", left(200, different), left(200, different)), api.OK}, {left(1500, func(i int) node { return different(i % 200) }), api.OK}, {left(1500, func(i int) node { return different(i % 201) }), api.ErrLong},
		{right(99, same), api.OK}, {right(100, same), api.OK}, {right(101, same), api.ErrLong}, {right(5000, same), api.ErrLong}, {of(4, "+", right(100, same), right(99, same)), api.OK}, {of(4, "+", right(99, same), right(100, same)), api.ErrLong}, {of(4, "+", right(100, same), right(100, same)), api.ErrLong},
		{of(7, "overlaps", col(0), col(0), col(0), right(97, same)), api.OK}, {of(7, "overlaps", col(0), col(0), col(0), right(98, same)), api.ErrLong}, {of(7, "contains", right(98, same), right(98, same), right(98, same), col(0)), api.OK}, {of(7, "contains", right(99, same), right(99, same), right(99, same), col(0)), api.ErrLong}, {of(7, "contains", right(100, same), right(99, same), right(98, same), col(0)), api.OK},
		{left(300000, different), api.ErrLong},
		// A constant that is no row is one of a valid program.
		{lit(text(strings.Repeat("a", 1<<15))), api.OK},
	} {
		want, err := program{}, c.err
		if err == api.OK {
			want, err = expected(c.n)
		}
		if err != c.err {
			t.Fatalf("the test itself is wrong about %.100v: %v", c.n, err)
		}
		holds(t, c.n, want, err)
	}
}

// TestP26_1Constants has equal constants in several places, and some that differ in their Kind only.
func TestP26_1Constants(t *testing.T) {
	next := chance(261)
	for range 500 {
		var l nodes
		for range 1 + next.below(40) {
			l = append(l, lit(valid()[next.below(len(valid()))]))
		}
		n := left(len(l), func(i int) node { return l[i] })
		want, err := expected(n)
		holds(t, n, want, err)
		for i, x := range l {
			p, _ := compile.Compile(n)
			// The constants are pushed in order, with a sum behind each one but the first.
			if push := p.Code[max(0, 2*i-1)]; push.Op != 1 || p.Consts[push.Arg] != x.Value || slices.Index(p.Consts, x.Value) != push.Arg {
				t.Fatalf("the constant of %v is %v", x, push)
			}
		}
	}
	all := left(len(valid()), func(i int) node { return lit(valid()[i]) })
	if p, _ := compile.Compile(all); !slices.Equal(p.Consts, valid()) {
		t.Errorf("the constants are %v", p.Consts)
	}
}

// TestP26_1ByChance has nested nodes held against the definition; nothing that is handed in changes.
func TestP26_1ByChance(t *testing.T) {
	next := chance(26)
	for i := range 20000 {
		n := next.node(1 + i%6)
		if i%5 == 0 {
			n = of(4, "and", n, of(3, "not", wrong()[next.below(len(wrong()))]))
		}
		before := copied(n)
		want, err := expected(n)
		holds(t, n, want, err)
		if !equal(n, before) {
			t.Fatalf("Compile changed %v", before)
		}
	}
}

func TestP26_2Decompile(t *testing.T) {
	col := func(slot int) node { return node{Kind: 2, Slot: slot} }
	lit := func(v value) node { return node{Kind: 1, Value: v} }
	of := func(kind int, op string, args ...node) node { return node{Kind: kind, Op: op, Args: args} }
	one := number(1)
	for _, c := range []struct {
		p program
		n node
	}{
		{with(values{one}, constant(0)), lit(one)}, {with(nil, slot(999)), col(999)}, {with(nil, slot(0)), col(0)}, {with(values{{}}, constant(0)), lit(value{})},
		{with(nil, slot(1), unary(0)), of(3, "-", col(1))}, {with(nil, slot(1), unary(1)), of(3, "not", col(1))}, {with(nil, slot(1), unary(2)), of(5, "is null", col(1))}, {with(nil, slot(1), unary(3)), of(5, "is not null", col(1))}, {with(nil, slot(1), unary(4)), of(7, "length", col(1))},
		{with(nil, slot(1), slot(2), binary(0)), of(4, "or", col(1), col(2))}, {with(nil, slot(2), slot(1), binary(14)), of(4, "%", col(2), col(1))}, {with(nil, slot(1), slot(2), slot(3), slot(4), four(0)), of(7, "overlaps", col(1), col(2), col(3), col(4))}, {with(nil, slot(1), slot(2), slot(3), slot(4), four(1)), of(7, "contains", col(1), col(2), col(3), col(4))},
		{with(nil, slot(1), slot(2), slot(3), binary(12), binary(10)), of(4, "+", col(1), of(4, "*", col(2), col(3)))}, {with(nil, slot(1), slot(2), binary(10), slot(3), binary(12)), of(4, "*", of(4, "+", col(1), col(2)), col(3))},
		// With constants that no program of a node has like this.
		{with(values{one, one, text("x")}, constant(1), constant(0), binary(2)), of(4, "=", lit(one), lit(one))}, {with(values{{}, text("x")}, constant(1)), lit(text("x"))}, {with(values{one, number(2)}, constant(1), constant(0), binary(11)), of(4, "-", lit(number(2)), lit(one))},
	} {
		if n, err := compile.Decompile(c.p); err != api.OK || !equal(n, c.n) {
			t.Errorf("Decompile(%v) = %+v %v, want %+v", c.p, n, err, c.n)
		}
	}
	for _, p := range []program{
		{}, with(values{one}), with(nil, constant(0)), with(values{one}, constant(1)), with(values{one}, constant(-1)), with(nil, slot(1000)), with(nil, slot(-1)), with(nil, slot(0), slot(0)), with(nil, unary(0)), with(nil, slot(0), unary(5)), with(nil, slot(0), binary(0)), with(nil, slot(0), slot(0), binary(15)), with(nil, slot(0), slot(0), slot(0), four(0)), with(nil, slot(0), slot(0), slot(0), slot(0), four(2)), with(nil, instr{Op: 6}), with(nil, instr{Op: 0}), with(nil, slot(0), instr{Op: 0}),
		with(values{{Int: 1}}, slot(0)), with(values{{Kind: 4}}, constant(0)), with(make(values, 201), slot(0)), with(nil, append(instrs{slot(0)}, slices.Repeat(instrs{unary(0)}, 4000)...)...), with(nil, append(slices.Repeat(instrs{slot(0)}, 101), slices.Repeat(instrs{binary(0)}, 100)...)...),
	} {
		if n, err := compile.Decompile(p); err != api.ErrForm || !equal(n, node{}) {
			t.Errorf("Decompile(%.200v) = %.200v %v", p, n, err)
		}
	}
}

// TestP26_2DecompileByChance has programs held against the definition; nothing that is handed in changes.
func TestP26_2DecompileByChance(t *testing.T) {
	next := chance(262)
	for i := range 2000 {
		p := next.program([]int{1, 5, 20, 100}[i%4])
		before := with(slices.Clone(p.Consts), slices.Clone(p.Code)...)
		n, err := compile.Decompile(p)
		want, count := origin(p, len(p.Code))
		if err != api.OK || count != len(p.Code) || !equal(n, want) {
			t.Fatalf("Decompile(%v) = %v %v, want %v", p, n, err, want)
		}
		if !code.Same(p, before) {
			t.Fatalf("Decompile changed %v", before)
		}
		// Its own program pushes and pops the same, if constants are not looked at by their numbers.
		again, err := compile.Compile(n)
		if err != api.OK || len(again.Code) != len(p.Code) {
			t.Fatalf("Compile(%v) = %v %v", n, again, err)
		}
		for j, x := range again.Code {
			y := p.Code[j]
			if x != y && (x.Op != 1 || y.Op != 1 || again.Consts[x.Arg] != p.Consts[y.Arg]) {
				t.Fatalf("%v was %v, in %v", x, y, p)
			}
		}
	}
	for _, height := range []int{1, 99, 100} {
		p := with(nil, append(slices.Repeat(instrs{slot(3)}, height), slices.Repeat(instrs{binary(10)}, height-1)...)...)
		if n, err := compile.Decompile(p); err != api.OK || !equal(n, untyped(right(height, same))) {
			t.Errorf("Decompile of %d slots = %.200v %v", height, n, err)
		}
	}
	p := with(nil, append(instrs{slot(3)}, slices.Repeat(instrs{unary(1)}, 3999)...)...)
	if n, err := compile.Decompile(p); err != api.OK || !equal(n, untyped(chain(3999, same(0)))) {
		t.Errorf("Decompile of 4000 instructions = %.200v %v", n, err)
	}
}

func TestP26_2Shape(t *testing.T) {
	odd := node{Kind: 9, Op: "?", Value: value{Kind: 9, Int: 1, Text: "a"}, Slot: -1, Type: 200, Args: nodes{of(6, "count"), {Kind: 1, Type: 1, Args: nodes{{Type: 7}}}, {Kind: 2, Op: "x", Slot: 5, Type: 3, Value: number(1)}}}
	for _, n := range append(wrong(), odd, node{Type: 255}, lit(text("a")), col(-9), bound(t, "count(*) + max(i) * length(s || 'a')"), chain(1<<16-1, col(1)), left(3000, different), right(3000, different), of(0, "", make(nodes, 5000)...)) {
		before := copied(n)
		got := compile.Shape(n)
		if !equal(got, untyped(n)) || !equal(n, before) {
			t.Errorf("Shape(%.200v) = %.200v", before, got)
		}
		if again := compile.Shape(got); !equal(again, got) {
			t.Errorf("Shape of %.200v = %.200v", got, again)
		}
	}
	next := chance(2622)
	for range 2000 {
		n := next.node(5)
		if got := compile.Shape(n); !equal(got, untyped(n)) {
			t.Fatalf("Shape(%v) = %v", n, got)
		}
	}
	// What stands behind the end of the arguments is not there.
	n := of(3, "-", nodes{col(1), col(2)}[:1]...)
	if got := compile.Shape(n); len(got.Args) != 1 || !equal(n.Args[:2][1], col(2)) {
		t.Errorf("Shape(%v) = %v", n, got)
	}
	spoil(compile.Shape(n).Args)
	if !equal(n, of(3, "-", col(1))) {
		t.Errorf("Shape gives the memory of its argument: %v", n)
	}
}

// TestP26_3 has nodes that are compiled and decompiled.
func TestP26_3(t *testing.T) {
	next := chance(263)
	for i := range 10000 {
		n := next.node(1 + i%6)
		p, err := compile.Compile(n)
		if err != api.OK {
			continue
		}
		m, err := compile.Decompile(p)
		if err != api.OK || !equal(m, untyped(n)) || !equal(m, compile.Shape(n)) {
			t.Fatalf("%v is decompiled to %v %v", n, m, err)
		}
		q, err := compile.Compile(m)
		if err != api.OK || !code.Same(p, q) {
			t.Fatalf("%v is compiled to %v and %v", n, p, q)
		}
	}
	for _, s := range []string{"i", "null", "-i * 2 + 3 % j", "s like 'a%' and not (b = x'00' or c is null)", "overlaps(i, j, i + 1, 9) = contains(1, 2, 3, 4)", "length(s || t) is not null"} {
		n := bound(t, s)
		p, _ := compile.Compile(n)
		if m, err := compile.Decompile(p); err != api.OK || !equal(m, untyped(n)) {
			t.Errorf("%s is decompiled to %v %v", s, m, err)
		}
	}
	// The edges of what is still a program.
	for _, n := range (nodes{chain(3999, col(0)), left(2000, same), right(100, same), left(200, different)}) {
		p, _ := compile.Compile(n)
		if m, err := compile.Decompile(p); err != api.OK || !equal(m, untyped(n)) {
			t.Errorf("%.200v is decompiled to %.200v %v", n, m, err)
		}
	}
}

// TestP26_4 holds the number of instructions and the constants.
func TestP26_4(t *testing.T) {
	next := chance(264)
	for i := range 10000 {
		n := next.node(1 + i%6)
		p, err := compile.Compile(n)
		if err != api.OK {
			continue
		}
		seen := map[string]int{}
		for _, v := range p.Consts {
			seen[strconv.Itoa(int(v.Kind))+" "+strconv.FormatInt(v.Int, 10)+" "+v.Text]++
		}
		if len(p.Code) != size(n) || len(seen) != len(p.Consts) {
			t.Fatalf("the program of %v is %v", n, p)
		}
	}
}

// TestP26_4Memory has results and arguments that share no memory.
func TestP26_4Memory(t *testing.T) {
	n := bound(t, "overlaps(i + 1, j - 1, 5 * 6, 7) = length('a' || s)")
	before := copied(n)
	p, _ := compile.Compile(n)
	q, _ := compile.Compile(n)
	first, _ := compile.Decompile(p)
	second, _ := compile.Decompile(p)
	shape := compile.Shape(n)
	spoil(n.Args)
	if want, _ := compile.Compile(before); !code.Same(p, want) || !equal(shape, untyped(before)) {
		t.Errorf("an argument is kept: %v %v", p, shape)
	}
	clear(p.Consts)
	clear(p.Code)
	if want, _ := compile.Compile(before); !code.Same(q, want) || !equal(first, untyped(before)) {
		t.Errorf("a program is kept: %v %v", q, first)
	}
	spoil(first.Args)
	if !equal(second, untyped(before)) {
		t.Errorf("two nodes share memory: %v", second)
	}
	apart(t, second)
	apart(t, compile.Shape(before))
	next := chance(2644)
	for range 300 {
		n, _ := compile.Decompile(next.program(40))
		apart(t, n)
	}
}

// apart holds that the arguments of each node in n are in memory of their own, also behind their end.
func apart(t *testing.T, n node) {
	t.Helper()
	places := map[*node]int{}
	var lists []nodes
	var visit func(x node)
	visit = func(x node) {
		for i := range x.Args {
			places[&x.Args[i]]++
			visit(x.Args[i])
		}
		lists = append(lists, x.Args)
	}
	visit(n)
	if len(places) != size(n)-1 {
		t.Fatalf("%d places for the nodes in %v", len(places), n)
	}
	before := copied(n)
	for _, l := range lists {
		_ = append(l, node{Kind: 77})
	}
	if !equal(n, before) {
		t.Fatalf("what is added to some arguments comes into %v", n)
	}
}
