package compile_test

import (
	"math"
	"slices"
	"strings"
	"testing"

	"hindsight/api"
	"hindsight/code"
	"hindsight/compile"
	"hindsight/parse"
	"hindsight/schema"
	"hindsight/typing"
)

// Short names for what the tests make by the dozen.
type (
	value   = api.Value
	values  = []api.Value
	node    = typing.Node
	nodes   = []typing.Node
	instr   = code.Instr
	instrs  = []code.Instr
	program = code.Program
)

func number(n int64) value { return value{Kind: 1, Int: n} }
func text(s string) value  { return value{Kind: 2, Text: s} }
func blob(s string) value  { return value{Kind: 3, Text: s} }

func lit(v value) node                          { return node{Kind: 1, Value: v, Type: v.Kind} }
func col(slot int) node                         { return node{Kind: 2, Slot: slot, Type: 1} }
func of(kind int, op string, args ...node) node { return node{Kind: kind, Op: op, Type: 1, Args: args} }

// Instructions of each op.
func constant(i int) instr { return instr{Op: 1, Arg: i} }
func slot(i int) instr     { return instr{Op: 2, Arg: i} }
func unary(i int) instr    { return instr{Op: 3, Arg: i} }
func binary(i int) instr   { return instr{Op: 4, Arg: i} }
func four(i int) instr     { return instr{Op: 5, Arg: i} }

// with is the program of these instructions with some constants.
func with(consts values, l ...instr) program { return program{Consts: consts, Code: l} }

// invalid are values that are not valid.
func invalid() values {
	return values{{Int: 1}, {Int: -1}, {Text: "a"}, {Kind: 1, Text: "a"}, {Kind: 1, Int: 3, Text: "3"}, {Kind: 2, Int: 1}, {Kind: 2, Int: -1, Text: "a"}, {Kind: 3, Int: 1, Text: "a"}, {Kind: 4}, {Kind: 255, Text: "a"}, {Kind: 4, Int: 1}}
}

// valid are values of every kind, some of which differ in their Kind only.
func valid() values {
	return values{{}, number(0), number(1), number(-1), number(math.MinInt64), number(math.MaxInt64), text(""), text("1"), text("\xff"), blob(""), blob("1"), blob("\xff")}
}

// wrong are nodes that have no program, of themselves.
func wrong() nodes {
	one := lit(number(1))
	return nodes{
		{}, {Kind: 8}, {Kind: -1}, {Kind: math.MinInt}, {Kind: math.MaxInt}, {Kind: 256 + 1, Value: number(1)}, {Kind: 256 + 2}, {Op: "-", Args: nodes{one}},
		of(6, "count"), of(6, "count", one), of(6, "sum", one), of(6, "min", one), of(6, "max", one), of(6, "length", one), of(6, ""),
		of(3, "-"), of(3, "-", one, one), of(3, "+", one), of(3, "", one), of(3, "NOT", one), of(3, "is null", one), of(3, "length", one),
		of(4, "+"), of(4, "+", one), of(4, "+", one, one, one), of(4, "not", one), of(4, "", one, one), of(4, "==", one, one), of(4, "AND", one, one), of(4, "is null", one, one), of(4, "overlaps", one, one, one, one),
		of(5, "is null"), of(5, "is null", one, one), of(5, "is", one), of(5, "", one), of(5, "not", one), of(5, "is  null", one), of(5, "=", one, one),
		of(7, "length"), of(7, "length", one, one), of(7, "length", one, one, one, one), of(7, "overlaps", one, one, one), of(7, "overlaps", one), of(7, "contains", one, one, one, one, one), of(7, "contains"), of(7, "", one), of(7, "", one, one, one, one), of(7, "count", one), of(7, "Length", one), of(7, "-", one),
		{Kind: 1, Value: number(1), Args: nodes{one}}, {Kind: 2, Args: nodes{one}}, {Kind: 1, Args: nodes{{}}}, {Kind: 2, Slot: 1, Args: nodes{one, one}}, {Kind: 1, Op: "-", Args: nodes{one}}, {Kind: 2, Op: "+", Args: nodes{one, one}},
	}
}

// operations are the words of a kind with so many arguments, with a semicolon between them.
func operations(kind, count int) string {
	return map[[2]int]string{
		{3, 1}: "-;not", {4, 2}: "or;and;=;<>;<;<=;>;>=;like;||;+;-;*;/;%", {5, 1}: "is null;is not null", {7, 1}: "length", {7, 4}: "overlaps;contains",
	}[[2]int{kind, count}]
}

// operation is the op and the arg of a kind, its word and so many arguments; 0 if there is none.
func operation(kind int, op string, count int) instr {
	at := slices.Index(strings.Split(operations(kind, count), ";"), op)
	if operations(kind, count) == "" || at < 0 {
		return instr{}
	}
	return map[[2]int]instr{{3, 1}: unary(at), {4, 2}: binary(at), {5, 1}: unary(2 + at), {7, 1}: unary(4), {7, 4}: four(at)}[[2]int{kind, count}]
}

// expected is the program of n by the chapter's definition.
func expected(n node) (program, api.Errno) {
	var p program
	if !translated(&p, n) {
		return program{}, api.ErrForm
	}
	if !code.Right(p) {
		return program{}, api.ErrLong
	}
	return p, api.OK
}

// translated adds the program of n to p, and reports whether it has one.
func translated(p *program, n node) bool {
	var last instr
	switch n.Kind {
	case 1:
		at := slices.Index(p.Consts, n.Value)
		if at < 0 {
			at = len(p.Consts)
			p.Consts = append(p.Consts, n.Value)
		}
		last = constant(at)
	case 2:
		last = slot(n.Slot)
	default:
		last = operation(n.Kind, n.Op, len(n.Args))
	}
	if last.Op == 0 || n.Kind < 3 && len(n.Args) > 0 {
		return false
	}
	for _, x := range n.Args {
		if !translated(p, x) {
			return false
		}
	}
	p.Code = append(p.Code, last)
	return true
}

// origin is the node of a valid program by the chapter's definition: that of its last instruction, and how many of them it is made of.
func origin(p program, count int) (node, int) {
	switch x := p.Code[count-1]; x.Op {
	case 1:
		return node{Kind: 1, Value: p.Consts[x.Arg]}, 1
	case 2:
		return node{Kind: 2, Slot: x.Arg}, 1
	default:
		n, used := node{}, 1
		for _, kind := range []int{3, 4, 5, 7} {
			for _, arguments := range []int{1, 2, 4} {
				for op := range strings.SplitSeq(operations(kind, arguments), ";") {
					if operation(kind, op, arguments) == x {
						n = node{Kind: kind, Op: op, Args: make(nodes, arguments)}
					}
				}
			}
		}
		for i := range n.Args {
			arg, more := origin(p, count-used)
			n.Args[len(n.Args)-1-i] = arg
			used += more
		}
		return n, used
	}
}

// holds holds the result of Compile.
func holds(t *testing.T, n node, want program, err api.Errno) {
	t.Helper()
	if p, got := compile.Compile(n); !code.Same(p, want) || got != err {
		t.Errorf("Compile(%.300v) = %.300v %v, want %.300v %v", n, p, got, want, err)
	}
}

// fails holds that Compile returns an error.
func fails(t *testing.T, n node, err api.Errno) {
	t.Helper()
	holds(t, n, program{}, err)
}

// scope has the columns i and j of integers, s and t of texts, b and c of blobs.
func scope() []typing.Source {
	table := schema.Table{Name: "t", Key: []int{0}, From: -1, To: -1}
	for i, name := range []string{"i", "j", "s", "t", "b", "c"} {
		table.Columns = append(table.Columns, schema.Column{Name: name, Kind: uint8(1 + i/2), NotNull: i == 0})
	}
	return []typing.Source{{As: "t", Table: table}}
}

// bound is the node of a text in that scope.
func bound(t *testing.T, s string) node {
	t.Helper()
	e, f := parse.ReadExpr(s)
	n, err := typing.Bind(e, scope(), true)
	if f != (api.Fault{}) || err != api.OK {
		t.Fatalf("%s: %v %v", s, f, err)
	}
	return n
}

// equal reports whether two nodes are equal.
func equal(a, b node) bool {
	return a.Kind == b.Kind && a.Op == b.Op && a.Value == b.Value && a.Slot == b.Slot && a.Type == b.Type && slices.EqualFunc(a.Args, b.Args, equal)
}

// copied is n in memory of its own.
func copied(n node) node {
	var args nodes
	for _, x := range n.Args {
		args = append(args, copied(x))
	}
	n.Args = args
	return n
}

// untyped is n in memory of its own, without Types.
func untyped(n node) node {
	var args nodes
	for _, x := range n.Args {
		args = append(args, untyped(x))
	}
	n.Type, n.Args = 0, args
	return n
}

// size is how many nodes n is made of.
func size(n node) int {
	count := 1
	for _, x := range n.Args {
		count += size(x)
	}
	return count
}

// spoil overwrites all nodes in a list.
func spoil(l nodes) {
	for i := range l {
		spoil(l[i].Args)
		l[i] = node{Kind: 77, Op: "spoilt"}
	}
}

// chain is end below so many nots.
func chain(count int, end node) node {
	for range count {
		end = of(3, "not", end)
	}
	return end
}

// left is the sum of so many nodes, the first ones added first, so that the stack stays low.
func left(count int, part func(i int) node) node {
	n := part(0)
	for i := 1; i < count; i++ {
		n = of(4, "+", n, part(i))
	}
	return n
}

// right is the sum of so many nodes, the last ones added first, so that all of them are on the stack.
func right(count int, part func(i int) node) node {
	n := part(count - 1)
	for i := count - 2; i >= 0; i-- {
		n = of(4, "+", part(i), n)
	}
	return n
}

// different is a literal for each integer.
func different(i int) node { return lit(number(int64(i))) }

// same is a column.
func same(int) node { return col(3) }

// chance are numbers that follow from each other.
type chance uint64

// below is the next number, from 0 to n - 1.
func (c *chance) below(n int) int {
	*c = *c*6364136223846793005 + 1442695040888963407
	return int(uint64(*c)>>33) % n
}

// node is a next node of at most that depth that has a program.
func (c *chance) node(depth int) node {
	n, count := of(4, ""), 2
	choice := c.below(9)
	if depth == 1 || choice == 0 {
		if c.below(2) == 0 {
			return node{Kind: 2, Slot: c.below(1000), Type: uint8(c.below(4))}
		}
		return lit(valid()[c.below(len(valid()))])
	}
	switch choice {
	case 1:
		n, count = of(3, ""), 1
	case 2:
		n, count = of(5, ""), 1
	case 3:
		n, count = of(7, ""), 1
	case 4:
		n, count = of(7, ""), 4
	}
	words := strings.Split(operations(n.Kind, count), ";")
	n.Op, n.Type = words[c.below(len(words))], uint8(c.below(4))
	for range count {
		n.Args = append(n.Args, c.node(depth-1))
	}
	return n
}

// program is a next valid program of about that many instructions, whose constants may be equal or not used.
func (c *chance) program(about int) program {
	var p program
	for range c.below(6) {
		p.Consts = append(p.Consts, valid()[c.below(len(valid()))])
	}
	height := 0
	for len(p.Code) < about || height != 1 {
		pops := []int{0, 0, 0, 1, 2, 2, 2, 4}[c.below(8)]
		switch {
		case pops > height || pops == 0 && height > 30:
		case pops > 0:
			x := map[int]instr{1: unary(c.below(5)), 2: binary(c.below(15)), 4: four(c.below(2))}[pops]
			p.Code, height = append(p.Code, x), height-pops+1
		case len(p.Consts) > 0 && c.below(2) == 0:
			p.Code, height = append(p.Code, constant(c.below(len(p.Consts)))), height+1
		default:
			p.Code, height = append(p.Code, slot(c.below(1000))), height+1
		}
	}
	return p
}
