package cell_test

import (
	"math"
	"math/big"
	"testing"

	"hindsight/api"
	"hindsight/cell"
)

// model is the result of the operation called name, in integers of any size, and whether there is one.
func model(name string, a, b int64) (*big.Int, bool) {
	x, y, z := big.NewInt(a), big.NewInt(b), new(big.Int)
	switch name {
	case "Add":
		return z.Add(x, y), true
	case "Sub":
		return z.Sub(x, y), true
	case "Mul":
		return z.Mul(x, y), true
	}
	if b == 0 {
		return z, false
	}
	if name == "Div" {
		return z.Quo(x, y), true
	}
	return z.Rem(x, y), true
}

var arithmetic = []string{"Add", "Sub", "Mul", "Div", "Mod"}

func TestP2_2Arithmetic(t *testing.T) {
	for _, name := range arithmetic {
		f := binary()[name]
		for _, a := range edges() {
			for _, b := range edges() {
				z, ok := model(name, a, b)
				want, wantCode := null, api.OK
				switch {
				case !ok:
					wantCode = api.ErrZero
				case !z.IsInt64():
					wantCode = api.ErrOver
				default:
					want = number(z.Int64())
				}
				if v, code := f(number(a), number(b)); v != want || code != wantCode {
					t.Errorf("%s(%d, %d) = %v %v, want %v %v", name, a, b, v, code, want, wantCode)
				}
			}
		}
	}
}

func TestP2_2ArithmeticSmall(t *testing.T) {
	for _, name := range arithmetic {
		for a := int64(-20); a <= 20; a++ {
			for b := int64(-20); b <= 20; b++ {
				z, ok := model(name, a, b)
				if v, _ := binary()[name](number(a), number(b)); ok && v != number(z.Int64()) {
					t.Errorf("%s(%d, %d) = %v, want %v", name, a, b, v, z)
				}
			}
		}
	}
}

func TestP2_2ArithmeticErrors(t *testing.T) {
	strings := []api.Value{text(""), text("1"), blob(""), blob("1")}
	numbers := []api.Value{null, number(0), number(1), number(math.MinInt64)}
	for _, name := range arithmetic {
		f := binary()[name]
		for _, s := range strings {
			for _, other := range append(numbers, strings...) {
				if v, code := f(s, other); v != null || code != api.ErrType {
					t.Errorf("%s(%v, %v) = %v %v", name, s, other, v, code)
				}
				if v, code := f(other, s); v != null || code != api.ErrType {
					t.Errorf("%s(%v, %v) = %v %v", name, other, s, v, code)
				}
			}
		}
		for _, n := range numbers {
			if v, code := f(null, n); v != null || code != api.OK {
				t.Errorf("%s(null, %v) = %v %v", name, n, v, code)
			}
			if v, code := f(n, null); v != null || code != api.OK {
				t.Errorf("%s(%v, null) = %v %v", name, n, v, code)
			}
		}
	}
}

func TestP2_2Signs(t *testing.T) {
	for _, c := range []struct{ a, b, div, mod int64 }{
		{7, 2, 3, 1}, {-7, 2, -3, -1}, {7, -2, -3, 1}, {-7, -2, 3, -1}, {1, 2, 0, 1}, {-1, 2, 0, -1},
	} {
		d, _ := cell.Div(number(c.a), number(c.b))
		m, _ := cell.Mod(number(c.a), number(c.b))
		if d != number(c.div) || m != number(c.mod) {
			t.Errorf("%d by %d: %v %v, want %d %d", c.a, c.b, d, m, c.div, c.mod)
		}
	}
	if v, code := cell.Mod(number(math.MinInt64), number(-1)); v != number(0) || code != api.OK {
		t.Errorf("Mod of the smallest integer and -1 = %v %v", v, code)
	}
	if v, code := cell.Div(number(math.MinInt64), number(-1)); v != null || code != api.ErrOver {
		t.Errorf("Div of the smallest integer and -1 = %v %v", v, code)
	}
}

func TestP2_2Neg(t *testing.T) {
	for _, c := range []struct {
		a, want api.Value
		code    api.Errno
	}{
		{number(0), number(0), api.OK},
		{number(5), number(-5), api.OK},
		{number(-5), number(5), api.OK},
		{number(math.MaxInt64), number(-math.MaxInt64), api.OK},
		{number(-math.MaxInt64), number(math.MaxInt64), api.OK},
		{number(math.MinInt64), null, api.ErrOver},
		{null, null, api.OK},
		{text("1"), null, api.ErrType},
		{blob(""), null, api.ErrType},
	} {
		if v, code := cell.Neg(c.a); v != c.want || code != c.code {
			t.Errorf("Neg(%v) = %v %v, want %v %v", c.a, v, code, c.want, c.code)
		}
	}
}

func TestP2_6Laws(t *testing.T) {
	for _, a := range ordered() {
		for _, b := range ordered() {
			for _, name := range []string{"Add", "Mul"} {
				v, code := binary()[name](a, b)
				w, code2 := binary()[name](b, a)
				if v != w || code != code2 {
					t.Errorf("%s(%v, %v) = %v %v, the other way round %v %v", name, a, b, v, code, w, code2)
				}
			}
			sum, code := cell.Add(a, b)
			if code != api.OK || sum == null {
				continue
			}
			if v, code := cell.Sub(sum, b); v != a || code != api.OK {
				t.Errorf("%v + %v - %v = %v %v", a, b, b, v, code)
			}
		}
	}
}
