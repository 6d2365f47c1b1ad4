package cell_test

import (
	"math"
	"testing"

	"hindsight/api"
	"hindsight/cell"
)

// known are values with a truth value.
func known() []api.Value {
	return []api.Value{null, number(0), number(1), number(2), number(-1), number(math.MinInt64), number(math.MaxInt64)}
}

// strange are valid values without a truth value.
func strange() []api.Value { return []api.Value{text(""), text("1"), blob(""), blob("\x00")} }

func TestP2_3Truth(t *testing.T) {
	for _, v := range known() {
		yes, sure, code := cell.Truth(v)
		if yes != (v.Int != 0) || sure != (v != null) || code != api.OK {
			t.Errorf("Truth(%v) = %v %v %v", v, yes, sure, code)
		}
	}
	for _, v := range strange() {
		if yes, sure, code := cell.Truth(v); yes || sure || code != api.ErrType {
			t.Errorf("Truth(%v) = %v %v %v", v, yes, sure, code)
		}
	}
	for _, v := range invalid() {
		if yes, sure, code := cell.Truth(v); yes || sure || code != api.ErrForm {
			t.Errorf("Truth(%v) = %v %v %v", v, yes, sure, code)
		}
	}
}

func TestP2_3Logic(t *testing.T) {
	for _, c := range []struct{ a, b, and, or api.Value }{
		{null, null, null, null},
		{null, number(0), number(0), null},
		{null, number(1), null, number(1)},
		{number(0), null, number(0), null},
		{number(0), number(0), number(0), number(0)},
		{number(0), number(1), number(0), number(1)},
		{number(1), null, null, number(1)},
		{number(1), number(0), number(0), number(1)},
		{number(1), number(1), number(1), number(1)},
		{number(-7), number(9), number(1), number(1)},
		{number(math.MinInt64), null, null, number(1)},
		{number(6), number(0), number(0), number(1)},
		{number(2), number(4), number(1), number(1)},
	} {
		if v, code := cell.And(c.a, c.b); v != c.and || code != api.OK {
			t.Errorf("And(%v, %v) = %v %v, want %v", c.a, c.b, v, code, c.and)
		}
		if v, code := cell.Or(c.a, c.b); v != c.or || code != api.OK {
			t.Errorf("Or(%v, %v) = %v %v, want %v", c.a, c.b, v, code, c.or)
		}
	}
}

func TestP2_3LogicErrors(t *testing.T) {
	for _, s := range strange() {
		for _, other := range append(known(), strange()...) {
			for _, name := range []string{"And", "Or"} {
				f := binary()[name]
				if v, code := f(s, other); v != null || code != api.ErrType {
					t.Errorf("%s(%v, %v) = %v %v", name, s, other, v, code)
				}
				if v, code := f(other, s); v != null || code != api.ErrType {
					t.Errorf("%s(%v, %v) = %v %v", name, other, s, v, code)
				}
			}
		}
		if v, code := cell.Not(s); v != null || code != api.ErrType {
			t.Errorf("Not(%v) = %v %v", s, v, code)
		}
	}
}

func TestP2_3Not(t *testing.T) {
	for _, v := range known() {
		want := null
		if v != null {
			want = cell.Bool(v.Int == 0)
		}
		if w, code := cell.Not(v); w != want || code != api.OK {
			t.Errorf("Not(%v) = %v %v, want %v", v, w, code, want)
		}
	}
}

func TestP2_7DeMorgan(t *testing.T) {
	for _, a := range known() {
		for _, b := range known() {
			and, _ := cell.And(a, b)
			or, _ := cell.Or(a, b)
			notA, _ := cell.Not(a)
			notB, _ := cell.Not(b)
			notAnd, _ := cell.Not(and)
			notOr, _ := cell.Not(or)
			if v, code := cell.Or(notA, notB); v != notAnd || code != api.OK {
				t.Errorf("not (%v and %v) = %v, the or of the nots %v %v", a, b, notAnd, v, code)
			}
			if v, code := cell.And(notA, notB); v != notOr || code != api.OK {
				t.Errorf("not (%v or %v) = %v, the and of the nots %v %v", a, b, notOr, v, code)
			}
		}
	}
}
