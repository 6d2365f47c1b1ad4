package cell_test

import (
	"bytes"
	"math"
	"testing"

	"hindsight/api"
	"hindsight/cell"
)

var null = api.Value{}

func number(n int64) api.Value { return api.Value{Kind: api.Int, Int: n} }
func text(s string) api.Value  { return api.Value{Kind: api.Text, Text: s} }
func blob(s string) api.Value  { return api.Value{Kind: api.Blob, Text: s} }

// edges are integers at which results begin or cease to fit.
func edges() []int64 {
	return []int64{
		math.MinInt64, math.MinInt64 + 1, math.MinInt64/2 - 1, math.MinInt64 / 2, -1 << 32, -3037000500, -7, -3, -2, -1,
		0, 1, 2, 3, 7, 10, 1 << 31, 3037000499, 3037000500, 1 << 32, math.MaxInt64 / 2, math.MaxInt64/2 + 1, math.MaxInt64 - 1, math.MaxInt64,
	}
}

// ordered are valid values in increasing order.
func ordered() []api.Value {
	l := []api.Value{null}
	for _, n := range edges() {
		l = append(l, number(n))
	}
	words := []string{"", "\x00", "0", "10", "9", "A", "a", "a\x00", "aa", "ab", "b", "\x7f", "é", "\xff", "\xff\x00", "\xff\xff"}
	for _, s := range words {
		l = append(l, text(s))
	}
	for _, s := range words {
		l = append(l, blob(s))
	}
	return l
}

// invalid are values that are not valid.
func invalid() []api.Value {
	return []api.Value{
		{Kind: api.Null, Int: 1}, {Kind: api.Null, Int: -1}, {Kind: api.Null, Text: "a"}, {Kind: api.Null, Int: 1, Text: "a"},
		{Kind: api.Int, Text: "a"}, {Kind: api.Int, Int: 5, Text: "\x00"},
		{Kind: api.Text, Int: 1}, {Kind: api.Text, Int: -1, Text: "a"},
		{Kind: api.Blob, Int: 1}, {Kind: api.Blob, Int: math.MinInt64, Text: "a"},
		{Kind: 4}, {Kind: 5, Int: 1}, {Kind: 255, Text: "a"},
	}
}

// binary are the functions of two values with a value as result.
func binary() map[string]func(a, b api.Value) (api.Value, api.Errno) {
	return map[string]func(a, b api.Value) (api.Value, api.Errno){
		"Add": cell.Add, "Sub": cell.Sub, "Mul": cell.Mul, "Div": cell.Div, "Mod": cell.Mod,
		"Join": cell.Join, "And": cell.And, "Or": cell.Or,
	}
}

// unary are the functions of one value with a value as result.
func unary() map[string]func(a api.Value) (api.Value, api.Errno) {
	return map[string]func(a api.Value) (api.Value, api.Errno){"Neg": cell.Neg, "Not": cell.Not}
}

func TestP2_1Right(t *testing.T) {
	for _, v := range ordered() {
		if !cell.Right(v) {
			t.Errorf("Right(%v) = false", v)
		}
	}
	for _, v := range invalid() {
		if cell.Right(v) {
			t.Errorf("Right(%v) = true", v)
		}
	}
}

func TestP2_1To(t *testing.T) {
	if x, code := cell.To(null); x != nil || code != api.OK {
		t.Errorf("To(null) = %v %v", x, code)
	}
	for _, n := range edges() {
		x, code := cell.To(number(n))
		if y, ok := x.(int64); !ok || y != n || code != api.OK {
			t.Errorf("To(%d) = %v %v", n, x, code)
		}
	}
	for _, s := range []string{"", "a", "\xff\x00"} {
		x, code := cell.To(text(s))
		if y, ok := x.(string); !ok || y != s || code != api.OK {
			t.Errorf("To(text %q) = %v %v", s, x, code)
		}
		x, code = cell.To(blob(s))
		if y, ok := x.([]byte); !ok || string(y) != s || code != api.OK {
			t.Errorf("To(blob %q) = %v %v", s, x, code)
		}
	}
	for _, v := range invalid() {
		if x, code := cell.To(v); x != nil || code != api.ErrForm {
			t.Errorf("To(%v) = %v %v", v, x, code)
		}
	}
}

func TestP2_1BlobIsNewMemory(t *testing.T) {
	v := blob("abc")
	x, _ := cell.To(v)
	y, _ := cell.To(v)
	x.([]byte)[0] = 'z'
	if string(y.([]byte)) != "abc" || v != blob("abc") {
		t.Errorf("blobs share memory: %q %v", y, v)
	}
	b := []byte("abc")
	w, _ := cell.From(b)
	b[0] = 'z'
	if w != blob("abc") {
		t.Errorf("From kept its argument: %v", w)
	}
	if w, _ := cell.From(b[:1]); w != blob("z") {
		t.Errorf("From went beyond the length: %v", w)
	}
}

type (
	myInt   int64
	myText  string
	myBytes []byte
)

func TestP2_1From(t *testing.T) {
	for _, v := range ordered() {
		x, _ := cell.To(v)
		if w, ok := cell.From(x); w != v || !ok {
			t.Errorf("From(To(%v)) = %v %v", v, w, ok)
		}
	}
	if v, ok := cell.From([]byte(nil)); v != blob("") || !ok {
		t.Errorf("From of no bytes = %v %v", v, ok)
	}
	n := int64(1)
	for _, x := range []any{
		1, int32(1), int16(1), int8(1), uint64(1), uint8(1), 1.5, true, 'a', myInt(1), myText("a"), myBytes("a"),
		[]int64{1}, [1]byte{1}, []rune("a"), []string{"a"}, &n, (*int64)(nil), number(1), api.ErrArg, struct{}{}, func() {},
	} {
		if v, ok := cell.From(x); v != null || ok {
			t.Errorf("From(%T) = %v %v", x, v, ok)
		}
	}
}

func TestP2_1Number(t *testing.T) {
	for _, n := range edges() {
		if m, ok := cell.Number(n); m != n || !ok {
			t.Errorf("Number(%d) = %d %v", n, m, ok)
		}
		if m := cell.MustNumber(n); m != n {
			t.Errorf("MustNumber(%d) = %d", n, m)
		}
	}
	for _, x := range []any{nil, 1, int32(1), uint64(1), "1", []byte{1}, 1.0, true, myInt(1), number(1)} {
		if m, ok := cell.Number(x); m != 0 || ok {
			t.Errorf("Number(%T) = %d %v", x, m, ok)
		}
	}
}

func TestP2_1Bool(t *testing.T) {
	if v, w := cell.Bool(true), cell.Bool(false); v != number(1) || w != number(0) {
		t.Errorf("Bool: %v %v", v, w)
	}
}

func TestP2_2InvalidFirst(t *testing.T) {
	for name, f := range binary() {
		for _, bad := range invalid() {
			for _, other := range append(ordered(), invalid()...) {
				if v, code := f(bad, other); v != null || code != api.ErrForm {
					t.Errorf("%s(%v, %v) = %v %v", name, bad, other, v, code)
				}
				if v, code := f(other, bad); v != null || code != api.ErrForm {
					t.Errorf("%s(%v, %v) = %v %v", name, other, bad, v, code)
				}
			}
		}
	}
	for name, f := range unary() {
		for _, bad := range invalid() {
			if v, code := f(bad); v != null || code != api.ErrForm {
				t.Errorf("%s(%v) = %v %v", name, bad, v, code)
			}
		}
	}
}

func TestP2_4InvalidFirst(t *testing.T) {
	for _, bad := range invalid() {
		for _, other := range append(ordered(), invalid()...) {
			if n, ok, code := cell.Compare(bad, other); n != 0 || ok || code != api.ErrForm {
				t.Errorf("Compare(%v, %v) = %d %v %v", bad, other, n, ok, code)
			}
			if n, ok, code := cell.Compare(other, bad); n != 0 || ok || code != api.ErrForm {
				t.Errorf("Compare(%v, %v) = %d %v %v", other, bad, n, ok, code)
			}
			if n, m := cell.Order(bad, other), cell.Order(other, bad); n != 0 || m != 0 {
				t.Errorf("Order of %v and %v = %d, %d", bad, other, n, m)
			}
		}
	}
}

// position is the place of v in the order of values.
func position(v api.Value) int {
	for i, w := range ordered() {
		if v == w {
			return i
		}
	}
	return -1
}

func sign(n int) int {
	switch {
	case n < 0:
		return -1
	case n > 0:
		return 1
	}
	return 0
}

func TestP2_4Order(t *testing.T) {
	l := ordered()
	for i, a := range l {
		for j, b := range l {
			if n := cell.Order(a, b); n != sign(i-j) {
				t.Errorf("Order(%v, %v) = %d, want %d", a, b, n, sign(i-j))
			}
		}
	}
}

func TestP2_4Compare(t *testing.T) {
	for _, a := range ordered() {
		for _, b := range ordered() {
			n, ok, code := cell.Compare(a, b)
			want, wantOk, wantCode := sign(position(a)-position(b)), true, api.OK
			switch {
			case a == null || b == null:
				want, wantOk = 0, false
			case a.Kind != b.Kind:
				want, wantOk, wantCode = 0, false, api.ErrType
			}
			if n != want || ok != wantOk || code != wantCode {
				t.Errorf("Compare(%v, %v) = %d %v %v, want %d %v %v", a, b, n, ok, code, want, wantOk, wantCode)
			}
		}
	}
}

func TestP2_5TotalOrder(t *testing.T) {
	l := ordered()
	for _, a := range l {
		for _, b := range l {
			n := cell.Order(a, b)
			if n != -cell.Order(b, a) || (n == 0) != (a == b) {
				t.Errorf("Order(%v, %v) = %d, the other way round %d", a, b, n, cell.Order(b, a))
			}
			if m, ok, code := cell.Compare(a, b); ok && (m != n || code != api.OK) {
				t.Errorf("Compare(%v, %v) = %d, Order is %d", a, b, m, n)
			}
			for _, c := range l {
				if n <= 0 && cell.Order(b, c) <= 0 && cell.Order(a, c) > 0 {
					t.Errorf("%v, %v and %v are in a circle", a, b, c)
				}
			}
		}
	}
}

func TestP2_2Join(t *testing.T) {
	for _, c := range []struct {
		a, b, want api.Value
		code       api.Errno
	}{
		{text("ab"), text("c"), text("abc"), api.OK},
		{text(""), text(""), text(""), api.OK},
		{text(""), text("x"), text("x"), api.OK},
		{blob("ab"), blob("\x00\xff"), blob("ab\x00\xff"), api.OK},
		{blob(""), blob(""), blob(""), api.OK},
		{null, text("a"), null, api.OK},
		{blob("a"), null, null, api.OK},
		{null, null, null, api.OK},
		{null, number(1), null, api.OK},
		{number(1), null, null, api.OK},
		{number(1), number(2), null, api.ErrType},
		{number(1), text("a"), null, api.ErrType},
		{text("a"), number(1), null, api.ErrType},
		{text("a"), blob("a"), null, api.ErrType},
		{blob("a"), text("a"), null, api.ErrType},
		{blob("a"), number(1), null, api.ErrType},
	} {
		if v, code := cell.Join(c.a, c.b); v != c.want || code != c.code {
			t.Errorf("Join(%v, %v) = %v %v, want %v %v", c.a, c.b, v, code, c.want, c.code)
		}
	}
}

func TestP1ArgumentsStay(t *testing.T) {
	b := []byte("abc")
	if _, ok := cell.From(b); !ok || !bytes.Equal(b, []byte("abc")) {
		t.Errorf("From changed its argument: %q", b)
	}
	for name, f := range binary() {
		for _, a := range append(ordered(), invalid()...) {
			for _, b := range append(ordered(), invalid()...) {
				v, code := f(a, b)
				if code != api.OK && v != null || !cell.Right(v) {
					t.Errorf("%s(%v, %v) = %v beside %v", name, a, b, v, code)
				}
			}
		}
	}
}
