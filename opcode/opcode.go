// Package opcode has the ops of the stack machine and their operations, which code, compile and machine share.
package opcode

import (
	"hindsight/syntax"
)

// Ops of instructions.
const (
	Const  = 1
	Slot   = 2
	Unary  = 3
	Binary = 4
	Four   = 5
)

// Operation is what a node of this Kind, with Name as its Op, does with so many arguments.
type Operation struct {
	Kind  int
	Name  string
	Takes int
}

// Of is the operation of the instruction op with arg, and whether it has one.
func Of(op, arg int) (Operation, bool) {
	switch op {
	case Unary:
		return unary(arg)
	case Binary:
		return binary(arg)
	case Four:
		return four(arg)
	}
	return Operation{}, false
}

func unary(arg int) (Operation, bool) {
	kinds := [...]int{syntax.Un, syntax.Un, syntax.Null, syntax.Null, syntax.Call}
	names := [...]string{"-", "not", "is null", "is not null", "length"}
	if arg < 0 || arg >= len(names) {
		return Operation{}, false
	}
	return Operation{Kind: kinds[arg], Name: names[arg], Takes: 1}, true
}

func binary(arg int) (Operation, bool) {
	names := [...]string{"or", "and", "=", "<>", "<", "<=", ">", ">=", "like", "||", "+", "-", "*", "/", "%"}
	if arg < 0 || arg >= len(names) {
		return Operation{}, false
	}
	return Operation{Kind: syntax.Bin, Name: names[arg], Takes: 2}, true
}

func four(arg int) (Operation, bool) {
	names := [...]string{"overlaps", "contains"}
	if arg < 0 || arg >= len(names) {
		return Operation{}, false
	}
	return Operation{Kind: syntax.Call, Name: names[arg], Takes: 4}, true
}
