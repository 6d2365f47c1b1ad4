package code_test

import (
	"slices"
	"strings"

	"hindsight/api"
	"hindsight/code"
)

// Short names for what the tests make by the dozen.
type (
	value   = api.Value
	values  = []api.Value
	instr   = code.Instr
	instrs  = []code.Instr
	program = code.Program
)

func number(n int64) value { return value{Kind: 1, Int: n} }
func text(s string) value  { return value{Kind: 2, Text: s} }
func blob(s string) value  { return value{Kind: 3, Text: s} }

// Instructions of each op.
func constant(i int) instr { return instr{1, i} }
func slot(i int) instr     { return instr{2, i} }
func unary(i int) instr    { return instr{3, i} }
func binary(i int) instr   { return instr{4, i} }
func four(i int) instr     { return instr{5, i} }

// of is the program of these instructions without constants.
func of(l ...instr) program { return program{Code: l} }

// with is the program of these instructions with one constant.
func with(v value, l ...instr) program { return program{values{v}, l} }

// times is the instructions l so many times.
func times(count int, l ...instr) instrs { return slices.Repeat(l, count) }

// invalid are values that are not valid.
func invalid() values {
	return values{{Int: 1}, {Int: -1}, {Text: "a"}, {Kind: 1, Text: "a"}, {Kind: 1, Int: 3, Text: "3"}, {Kind: 2, Int: 1}, {Kind: 2, Int: -1, Text: "a"}, {Kind: 3, Int: 1, Text: "a"}, {Kind: 4}, {Kind: 255, Text: "a"}, {Kind: 4, Int: 1}}
}

// valid are values of every kind.
func valid() values {
	return values{{}, number(0), number(7), number(-1), number(-1 << 63), number(1<<63 - 1), text(""), text("a"), text("\xff"), text(strings.Repeat("b", 300)), blob(""), blob("a"), blob("\x00\xff")}
}

// deep is a program whose stack has that many values at most, at least 1.
func deep(height int) program {
	return of(append(times(height, slot(3)), times(height-1, binary(10))...)...)
}

// long is a program of that many instructions, at least 1.
func long(count int) program {
	return of(append(instrs{slot(0)}, times(count-1, unary(1))...)...)
}

// many are so many constants, all of them different.
func many(count int) values {
	var l values
	for i := range count {
		l = append(l, number(int64(i)))
	}
	return l
}

// copied is p in memory of its own.
func copied(p program) program {
	return program{slices.Clone(p.Consts), slices.Clone(p.Code)}
}

// names are the names of the operations of each op, by their Args.
func names(op int) []string {
	return strings.Split([]string{"", "", "", "-;not;is null;is not null;length", "or;and;=;<>;<;<=;>;>=;like;||;+;-;*;/;%", "overlaps;contains"}[op], ";")
}

// right reports whether a value is valid.
func right(v value) bool {
	return v == value{} || v == number(v.Int) || v == text(v.Text) || v == blob(v.Text)
}

// pops is how many values an instruction takes in a program with so many constants; -1 if there is no such instruction.
func pops(x instr, consts int) int {
	switch {
	case x.Op == 1 && x.Arg >= 0 && x.Arg < consts || x.Op == 2 && x.Arg >= 0 && x.Arg < 1000:
		return 0
	case x.Op >= 3 && x.Op <= 5 && x.Arg >= 0 && x.Arg < len(names(x.Op)):
		return []int{3: 1, 4: 2, 5: 4}[x.Op]
	}
	return -1
}

// heights are the heights of the stack behind each instruction of p, by the chapter's definition; nothing if p is not valid.
func heights(p program) []int {
	if len(p.Consts) > 200 || len(p.Code) > 4000 {
		return nil
	}
	for _, v := range p.Consts {
		if !right(v) {
			return nil
		}
	}
	var stack, all []int
	for i, x := range p.Code {
		count := pops(x, len(p.Consts))
		if count < 0 || count > len(stack) || len(stack)-count == 100 {
			return nil
		}
		stack = append(stack[:len(stack)-count], i)
		all = append(all, len(stack))
	}
	if len(stack) != 1 {
		return nil
	}
	return all
}

// chance are numbers that follow from each other.
type chance uint64

// below is the next number, from 0 to n - 1.
func (c *chance) below(n int) int {
	*c = *c*6364136223846793005 + 1442695040888963407
	return int(uint64(*c)>>33) % n
}

// program is a next valid program, of at most that many instructions at first and then what brings the stack to one value.
func (c *chance) program(most int) program {
	p := program{Consts: values{}}
	for range c.below(4) * c.below(4) {
		p.Consts = append(p.Consts, valid()[c.below(len(valid()))])
	}
	height := 0
	for range c.below(most + 1) {
		x := c.instr(len(p.Consts))
		if count := pops(x, len(p.Consts)); count >= 0 && count <= height && height-count < 100 {
			p.Code, height = append(p.Code, x), height-count+1
		}
	}
	if height == 0 {
		p.Code, height = append(p.Code, slot(c.below(1000))), 1
	}
	for ; height > 1; height-- {
		p.Code = append(p.Code, binary(c.below(15)))
	}
	return p
}

// instr is a next instruction in a program with so many constants.
func (c *chance) instr(consts int) instr {
	switch op := 1 + c.below(5); {
	case op == 1 && consts > 0:
		return constant(c.below(consts))
	case op <= 2:
		return slot(c.below(1000))
	default:
		return instr{op, c.below(len(names(op)))}
	}
}
