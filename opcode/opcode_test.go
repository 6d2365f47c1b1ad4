package opcode_test

import (
	"math"
	"testing"

	"hindsight/opcode"
)

// table is the operations of each op, from 0 on.
func table() [][]opcode.Operation {
	return [][]opcode.Operation{
		3: {{Kind: 3, Name: "-", Takes: 1}, {Kind: 3, Name: "not", Takes: 1}, {Kind: 5, Name: "is null", Takes: 1}, {Kind: 5, Name: "is not null", Takes: 1}, {Kind: 7, Name: "length", Takes: 1}},
		4: {
			{Kind: 4, Name: "or", Takes: 2}, {Kind: 4, Name: "and", Takes: 2}, {Kind: 4, Name: "=", Takes: 2}, {Kind: 4, Name: "<>", Takes: 2}, {Kind: 4, Name: "<", Takes: 2},
			{Kind: 4, Name: "<=", Takes: 2}, {Kind: 4, Name: ">", Takes: 2}, {Kind: 4, Name: ">=", Takes: 2}, {Kind: 4, Name: "like", Takes: 2}, {Kind: 4, Name: "||", Takes: 2},
			{Kind: 4, Name: "+", Takes: 2}, {Kind: 4, Name: "-", Takes: 2}, {Kind: 4, Name: "*", Takes: 2}, {Kind: 4, Name: "/", Takes: 2}, {Kind: 4, Name: "%", Takes: 2},
		},
		5: {{Kind: 7, Name: "overlaps", Takes: 4}, {Kind: 7, Name: "contains", Takes: 4}},
	}
}

func TestOf(t *testing.T) {
	for op := -3; op < 12; op++ {
		for _, arg := range []int{math.MinInt, -1, 0, 1, 2, 3, 4, 5, 6, 7, 8, 9, 10, 11, 12, 13, 14, 15, 16, 200, math.MaxInt} {
			var want opcode.Operation
			known := op >= 3 && op <= 5 && arg >= 0 && arg < len(table()[op])
			if known {
				want = table()[op][arg]
			}
			if got, some := opcode.Of(op, arg); got != want || some != known {
				t.Errorf("Of(%d, %d) = %v %v, want %v %v", op, arg, got, some, want, known)
			}
		}
	}
	for _, op := range []int{math.MinInt, math.MaxInt, 256 + 3, 1 << 32} {
		if got, some := opcode.Of(op, 0); got != (opcode.Operation{}) || some {
			t.Errorf("Of(%d, 0) = %v %v", op, got, some)
		}
	}
}
