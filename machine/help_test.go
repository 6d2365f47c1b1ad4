package machine_test

import (
	"math"
	"slices"
	"strings"
	"testing"

	"hindsight/api"
	"hindsight/code"
	"hindsight/eval"
	"hindsight/machine"
	"hindsight/typing"
)

// Short names for what the tests make by the dozen.
type (
	value   = api.Value
	values  = []api.Value
	node    = typing.Node
	nodes   = []typing.Node
	instr   = code.Instr
	instrs  = []code.Instr
	program = code.Program
)

func number(n int64) value { return value{Kind: 1, Int: n} }
func text(s string) value  { return value{Kind: 2, Text: s} }
func blob(s string) value  { return value{Kind: 3, Text: s} }

// Instructions of each op.
func constant(i int) instr { return instr{Op: 1, Arg: i} }
func slot(i int) instr     { return instr{Op: 2, Arg: i} }
func unary(i int) instr    { return instr{Op: 3, Arg: i} }
func binary(i int) instr   { return instr{Op: 4, Arg: i} }
func four(i int) instr     { return instr{Op: 5, Arg: i} }

// with is the program of these instructions with some constants.
func with(consts values, l ...instr) program { return program{Consts: consts, Code: l} }

// times is the instructions l so many times.
func times(count int, l ...instr) instrs { return slices.Repeat(l, count) }

// invalid are values that are not valid.
func invalid() values {
	return values{{Int: 1}, {Int: -1}, {Text: "a"}, {Kind: 1, Text: "a"}, {Kind: 1, Int: 3, Text: "3"}, {Kind: 2, Int: 1}, {Kind: 2, Int: -1, Text: "a"}, {Kind: 3, Int: 1, Text: "a"}, {Kind: 4}, {Kind: 255, Text: "a"}, {Kind: 4, Int: 1}}
}

// valid are values of every kind.
func valid() values {
	return values{{}, number(0), number(1), number(2), number(5), number(-1), number(math.MinInt64), number(math.MaxInt64), text(""), text("a"), text("a%"), text("\xff"), blob(""), blob("a"), blob("\xff")}
}

// broken are programs that are not valid.
func broken() []program {
	one := values{number(1)}
	high := append(times(101, slot(0)), times(100, binary(10))...)
	long := append(instrs{slot(0)}, times(4000, unary(1))...)
	l := []program{
		{}, with(one), with(nil, constant(0)), with(one, constant(1)), with(one, constant(-1)), with(nil, slot(-1)), with(nil, slot(1000)), with(nil, slot(math.MinInt)), with(nil, instr{}), with(one, instr{Arg: 1}, constant(0)), with(nil, slot(0), instr{Op: 6}), with(nil, slot(0), instr{Op: -1}), with(one, instr{Op: 256 + 1}), with(nil, slot(0), instr{Op: math.MaxInt}), with(nil, slot(0), unary(5)), with(nil, slot(0), unary(-1)),
		with(nil, slot(0), slot(0), binary(15)), with(nil, slot(0), slot(0), binary(-1)), with(nil, slot(0), slot(0), slot(0), slot(0), four(2)), with(nil, unary(0)), with(nil, slot(0), binary(10)), with(nil, slot(0), slot(0), slot(0), four(0)), with(nil, slot(0), slot(0)), with(one, constant(0), slot(0), constant(0), binary(10)),
		with(nil, high...), with(nil, long...), with(slices.Repeat(one, 201), constant(0)), with(slices.Repeat(one, 201), slot(0)),
	}
	for _, v := range invalid() {
		l = append(l, with(values{v}, constant(0)), with(values{number(1), v}, constant(0)), with(values{v}, slot(0)))
	}
	return l
}

// made is a machine with that much fuel.
func made(t *testing.T, fuel int) *machine.Machine {
	t.Helper()
	m, err := machine.New(fuel)
	if m == nil || err != api.OK {
		t.Fatalf("New(%d) = %v %v", fuel, m, err)
	}
	return m
}

// left holds the fuel that is left.
func left(t *testing.T, m *machine.Machine, want int, what string) {
	t.Helper()
	if got := m.Fuel(); got != want {
		t.Errorf("%s: Fuel is %d, want %d", what, got, want)
	}
}

// runs holds the result of Run, and what it leaves of the fuel.
func runs(t *testing.T, fuel int, p program, row values, want value, code api.Errno, rest int) {
	t.Helper()
	m := made(t, fuel)
	if v, err := m.Run(p, row); v != want || err != code || m.Fuel() != rest {
		t.Errorf("with %d Run(%.300v) of %.200v = %.100v %v and %d left, want %.100v %v and %d", fuel, p, row, v, err, m.Fuel(), want, code, rest)
	}
}

// operation is what an op does with an arg: the kind of the node, its word and the number of its arguments; no arguments if there is none.
func operation(x instr) (int, string, int) {
	words := map[int]string{3: "-;not;is null;is not null;length", 4: "or;and;=;<>;<;<=;>;>=;like;||;+;-;*;/;%", 5: "overlaps;contains"}
	switch l := strings.Split(words[x.Op], ";"); {
	case words[x.Op] == "" || x.Arg < 0 || x.Arg >= len(l):
		return 0, "", 0
	case x.Op == 3:
		return []int{3, 3, 5, 5, 7}[x.Arg], l[x.Arg], 1
	case x.Op == 4:
		return 4, l[x.Arg], 2
	default:
		return 7, l[x.Arg], 4
	}
}

// expected is what a valid program does by the chapter's definition: its value or error, and what is left of the fuel.
func expected(fuel int, p program, row values) (value, api.Errno, int) {
	var stack values
	for i, x := range p.Code {
		if i == fuel {
			return value{}, api.ErrFuel, 0
		}
		n := node{Kind: 2, Slot: x.Arg}
		if x.Op == 1 {
			n = node{Kind: 1, Value: p.Consts[x.Arg]}
		}
		kind, word, count := operation(x)
		if count > 0 {
			n = node{Kind: kind, Op: word}
		}
		for _, v := range stack[len(stack)-count:] {
			n.Args = append(n.Args, node{Kind: 1, Value: v})
		}
		v, err := eval.Value(n, row)
		if err != api.OK {
			return value{}, err, fuel - i - 1
		}
		stack = append(stack[:len(stack)-count], v)
	}
	return stack[0], api.OK, fuel - len(p.Code)
}

// copied is p in memory of its own.
func copied(p program) program {
	return program{Consts: slices.Clone(p.Consts), Code: slices.Clone(p.Code)}
}

// size is how many nodes n is made of.
func size(n node) int {
	count := 1
	for _, x := range n.Args {
		count += size(x)
	}
	return count
}

// chance are numbers that follow from each other.
type chance uint64

// below is the next number, from 0 to n - 1.
func (c *chance) below(n int) int {
	*c = *c*6364136223846793005 + 1442695040888963407
	return int(uint64(*c)>>33) % n
}

// value is the next one of l.
func (c *chance) value(l values) value { return l[c.below(len(l))] }

// row is some of the values of l, and seldom one that is not valid.
func (c *chance) row(l values) values {
	var row values
	for range 2 + c.below(4) {
		row = append(row, c.value(l))
	}
	if c.below(20) == 0 {
		row[c.below(len(row))] = c.value(invalid())
	}
	return row
}

// program is a next valid program of about that many instructions, with constants of l.
func (c *chance) program(about int, l values) program {
	p := program{Consts: values{c.value(l), c.value(l)}}
	height := 0
	for len(p.Code) < about || height != 1 {
		pops := []int{0, 0, 0, 1, 2, 2, 2, 4}[c.below(8)]
		switch {
		case pops > height || pops == 0 && height > 20:
			continue
		case pops == 0 && c.below(2) == 0:
			p.Code = append(p.Code, constant(c.below(2)))
		case pops == 0:
			p.Code = append(p.Code, slot(c.below(4)))
		default:
			p.Code = append(p.Code, map[int]instr{1: unary(c.below(5)), 2: binary(c.below(15)), 4: four(c.below(2))}[pops])
		}
		height += 1 - pops
	}
	return p
}

// node is a next node of at most that depth, with literals of l.
func (c *chance) node(depth int, l values) node {
	if depth == 1 || c.below(9) == 0 {
		if c.below(2) == 0 {
			return node{Kind: 2, Slot: c.below(4), Type: uint8(c.below(4))}
		}
		return node{Kind: 1, Value: c.value(l)}
	}
	kind, word, count := operation([]instr{unary(c.below(5)), binary(c.below(15)), binary(c.below(15)), four(c.below(2))}[c.below(4)])
	n := node{Kind: kind, Op: word, Type: uint8(c.below(4))}
	for range count {
		n.Args = append(n.Args, c.node(depth-1, l))
	}
	return n
}
