package record_test

import (
	"bytes"
	"math"
	"slices"
	"strings"
	"testing"

	"hindsight/api"
	"hindsight/record"
)

var null = api.Value{}

func number(n int64) api.Value { return api.Value{Kind: api.Int, Int: n} }
func text(s string) api.Value  { return api.Value{Kind: api.Text, Text: s} }
func blob(s string) api.Value  { return api.Value{Kind: api.Blob, Text: s} }

func row(l ...api.Value) []api.Value { return l }

// values are valid values in increasing order.
func values() []api.Value {
	l := row(null)
	for _, n := range []int64{math.MinInt64, math.MinInt64 + 1, -65, -64, -1, 0, 1, 63, 64, 1 << 40, math.MaxInt64} {
		l = append(l, number(n))
	}
	words := []string{"", "\x00", "a", "a\x00", "ab", "b", "\xff", "\xff\xff"}
	for _, s := range words {
		l = append(l, text(s))
	}
	for _, s := range words {
		l = append(l, blob(s))
	}
	return l
}

// invalid are values that are not valid.
func invalid() []api.Value {
	return []api.Value{
		{Int: 1}, {Text: "a"}, {Kind: api.Int, Text: "a"}, {Kind: api.Text, Int: 1},
		{Kind: api.Blob, Int: -1, Text: "a"}, {Kind: 4}, {Kind: 255, Text: "a"},
	}
}

// rows are rows of at most three values in increasing order, and after the first all begin with prefix.
func rows(prefix []api.Value) [][]api.Value {
	l := [][]api.Value{prefix}
	if len(prefix) == 2 {
		return l
	}
	for _, v := range values() {
		l = append(l, rows(append(slices.Clone(prefix), v))...)
	}
	return l
}

// unsigned is the encoding of an unsigned integer by its definition.
func unsigned(v uint64) []byte {
	b := []byte{byte(v % 128)}
	for v /= 128; v > 0; v /= 128 {
		b[len(b)-1] += 128
		b = append(b, byte(v%128))
	}
	return b
}

// encoding is the encoding of a row by its definition.
func encoding(l []api.Value) []byte {
	b := unsigned(uint64(len(l)))
	for _, v := range l {
		b = append(b, v.Kind)
		switch {
		case v.Kind == api.Int && v.Int >= 0:
			b = append(b, unsigned(2*uint64(v.Int))...)
		case v.Kind == api.Int:
			b = append(b, unsigned(2*uint64(-(v.Int+1))+1)...)
		case v.Kind != api.Null:
			b = append(b, unsigned(uint64(len(v.Text)))...)
			b = append(b, v.Text...)
		}
	}
	return b
}

func TestP3_1WriteKnown(t *testing.T) {
	for _, c := range []struct {
		l    []api.Value
		want []byte
	}{
		{nil, []byte{0}},
		{row(), []byte{0}},
		{row(number(1)), []byte{1, 1, 2}},
		{row(null), []byte{1, 0}},
		{row(null, null), []byte{2, 0, 0}},
		{row(number(-1)), []byte{1, 1, 1}},
		{row(number(0)), []byte{1, 1, 0}},
		{row(number(150)), []byte{1, 1, 172, 2}},
		{row(text("")), []byte{1, 2, 0}},
		{row(text("ab"), blob("\x00\xff")), []byte{2, 2, 2, 'a', 'b', 3, 2, 0, 255}},
		{row(blob("")), []byte{1, 3, 0}},
		{row(number(-5), null, text("x")), []byte{3, 1, 9, 0, 2, 1, 'x'}},
	} {
		b, code := record.Write(c.l)
		if !bytes.Equal(b, c.want) || code != api.OK {
			t.Errorf("Write(%v) = %v %v, want %v", c.l, b, code, c.want)
		}
	}
}

func TestP3_1WriteByDefinition(t *testing.T) {
	for _, l := range rows(nil) {
		b, code := record.Write(l)
		if !bytes.Equal(b, encoding(l)) || code != api.OK || !record.Right(l) {
			t.Errorf("Write(%v) = %v %v, want %v", l, b, code, encoding(l))
		}
	}
}

func TestP3_1TooManyValues(t *testing.T) {
	for n := range 20 {
		l := make([]api.Value, n)
		want := api.OK
		if n > api.MaxColumns {
			want = api.ErrForm
		}
		b, code := record.Write(l)
		if code != want || (len(b) > 0) != (want == api.OK) || record.Right(l) != (want == api.OK) {
			t.Errorf("%d values: %v %v, Right %v", n, b, code, record.Right(l))
		}
		m, code := record.Read(append([]byte{byte(n)}, make([]byte, n)...))
		if code != want || len(m) > 0 && !slices.Equal(m, l) || want != api.OK && len(m) > 0 {
			t.Errorf("read %d values: %v %v", n, m, code)
		}
	}
}

func TestP3_1InvalidValues(t *testing.T) {
	long := text(strings.Repeat("a", api.MaxRecord+1))
	for _, bad := range invalid() {
		for _, l := range [][]api.Value{{bad}, {bad, null}, {null, bad}, {long, bad}, {bad, long}, {number(1), bad, text("a")}} {
			if b, code := record.Write(l); len(b) > 0 || code != api.ErrForm {
				t.Errorf("Write with %v = %d bytes, %v", bad, len(b), code)
			}
			if record.Right(l) {
				t.Errorf("Right with %v", bad)
			}
		}
	}
	if _, code := record.Write(append(make([]api.Value, api.MaxColumns), long)); code != api.ErrForm {
		t.Errorf("too many and too long: %v", code)
	}
}

func TestP3_1WriteLimit(t *testing.T) {
	// Beside the string: the count, and for each value its kind and the length in two bytes.
	one := func(n int) []api.Value { return row(text(strings.Repeat("a", n))) }
	two := func(n int) []api.Value {
		return row(text(strings.Repeat("\xff", 4000)), blob(strings.Repeat("b", n)))
	}
	for _, c := range []struct {
		l    []api.Value
		code api.Errno
	}{
		{one(api.MaxRecord - 4), api.OK},
		{one(api.MaxRecord - 3), api.ErrLong},
		{one(api.MaxRecord - 1), api.ErrLong},
		{one(api.MaxRecord), api.ErrLong},
		{one(api.MaxRecord + 1), api.ErrLong},
		{one(1 << 20), api.ErrLong},
		{two(api.MaxRecord - 4007), api.OK},
		{two(api.MaxRecord - 4006), api.ErrLong},
		{two(api.MaxRecord), api.ErrLong},
		{append(one(api.MaxRecord-6), number(0)), api.OK},
		{append(one(api.MaxRecord-6), number(64)), api.ErrLong},
		{append(one(api.MaxRecord-5), null), api.OK},
		{append(one(api.MaxRecord-4), null), api.ErrLong},
	} {
		b, code := record.Write(c.l)
		if code != c.code || record.Right(c.l) != (c.code == api.OK) {
			t.Errorf("%d bytes: %v, want %v; Right %v", len(encoding(c.l)), code, c.code, record.Right(c.l))
		}
		if code != api.OK && len(b) > 0 {
			t.Errorf("%d bytes beside %v", len(b), code)
		}
		if code == api.OK && !bytes.Equal(b, encoding(c.l)) {
			t.Errorf("%d bytes are written otherwise", len(b))
		}
	}
}

func TestP3_1ReadLimit(t *testing.T) {
	good := encoding(row(text(strings.Repeat("a", api.MaxRecord-4))))
	if l, code := record.Read(good); len(l) != 1 || code != api.OK {
		t.Errorf("%d bytes: %d values, %v", len(good), len(l), code)
	}
	long := encoding(row(text(strings.Repeat("a", api.MaxRecord-3))))
	for _, b := range [][]byte{long, append(good, 0), make([]byte, api.MaxRecord+1), bytes.Repeat([]byte{255}, 2*api.MaxRecord)} {
		if l, code := record.Read(b); len(l) > 0 || code != api.ErrLong {
			t.Errorf("%d bytes: %d values, %v", len(b), len(l), code)
		}
	}
	for _, b := range [][]byte{make([]byte, api.MaxRecord), bytes.Repeat([]byte{255}, api.MaxRecord)} {
		if l, code := record.Read(b); len(l) > 0 || code != api.ErrForm {
			t.Errorf("%d bytes: %d values, %v", len(b), len(l), code)
		}
	}
}

func TestP3_1ReadWrong(t *testing.T) {
	huge := bytes.Repeat([]byte{255}, 9)
	for _, b := range [][]byte{
		nil, {}, {1}, {2, 0}, {1, 0, 0}, {0, 0}, {17}, {128}, {128, 0}, {129, 0, 0}, {255, 1},
		append(slices.Clone(huge), 1), append(slices.Clone(huge), 2),
		{1, 4}, {1, 4, 0}, {1, 255}, {1, 255, 0}, {1, 16}, {2, 0, 4},
		{1, 1}, {1, 1, 128}, {1, 1, 128, 0}, {1, 1, 130, 0}, {1, 1, 2, 2},
		append([]byte{1, 1}, huge...), append(append([]byte{1, 1}, huge...), 2), append(append([]byte{1, 1}, huge...), 129, 0),
		{1, 2}, {1, 2, 1}, {1, 2, 2, 'a'}, {1, 2, 128, 0}, {1, 2, 129, 0, 'a'}, {1, 2, 1, 'a', 'b'},
		{1, 3}, {1, 3, 1}, {1, 3, 2, 'a'}, {1, 3, 128, 0}, {1, 3, 1, 'a', 'b'},
		append(append([]byte{1, 2}, huge...), 1), append(append([]byte{1, 3}, huge...), 1, 'a'),
		{1, 2, 255, 255, 255, 255, 255, 255, 255, 255, 127, 'a'},
	} {
		if l, code := record.Read(b); len(l) > 0 || code != api.ErrForm {
			t.Errorf("Read(%v) = %v %v", b, l, code)
		}
	}
}

func TestP3_1ReadCutOff(t *testing.T) {
	for _, l := range rows(nil) {
		b := encoding(l)
		for n := range b {
			if m, code := record.Read(b[:n]); len(m) > 0 || code != api.ErrForm {
				t.Errorf("Read of %d of %v = %v %v", n, b, m, code)
			}
		}
		for _, c := range []byte{0, 1, 128, 255} {
			if m, code := record.Read(append(slices.Clone(b), c)); len(m) > 0 || code != api.ErrForm {
				t.Errorf("Read(%v and %d) = %v %v", b, c, m, code)
			}
		}
	}
}

func TestP3_3RoundTrip(t *testing.T) {
	l := rows(nil)
	l = append(l, values()[:api.MaxColumns], values()[len(values())-api.MaxColumns:])
	for _, l := range l {
		b, _ := record.Write(l)
		m, code := record.Read(b)
		if code != api.OK || !slices.Equal(m, l) || !record.Same(m, l) {
			t.Errorf("Read(Write(%v)) = %v %v", l, m, code)
		}
	}
}

// visit calls f with every byte string of at most n bytes out of alphabet.
func visit(alphabet []byte, n int, b []byte, f func(b []byte)) {
	f(b)
	if n == 0 {
		return
	}
	for _, c := range alphabet {
		visit(alphabet, n-1, append(b[:len(b):len(b)], c), f)
	}
}

func TestP3_3OneEncoding(t *testing.T) {
	found := 0
	visit([]byte{0, 1, 2, 3, 4, 16, 17, 128, 129, 255}, 6, nil, func(b []byte) {
		l, code := record.Read(b)
		if code != api.OK {
			return
		}
		found++
		if w, code := record.Write(l); !bytes.Equal(w, b) || code != api.OK {
			t.Errorf("Write(Read(%v)) = %v %v", b, w, code)
		}
	})
	if found < 1000 {
		t.Errorf("%d rows found", found)
	}
}

func TestP3_1Same(t *testing.T) {
	l := rows(nil)
	for i, a := range l {
		for j, b := range l {
			if record.Same(a, b) != (i == j) {
				t.Errorf("Same(%v, %v) = %v", a, b, i != j)
			}
		}
	}
	if !record.Same(nil, row()) || !record.Same(row(), nil) || record.Same(nil, row(null)) {
		t.Error("Same of no values")
	}
	if record.Same(row(text("a")), row(blob("a"))) || record.Same(row(null), row(number(0))) {
		t.Error("Same of other kinds")
	}
}

func sign(n int) int {
	switch {
	case n < 0:
		return -1
	case n > 0:
		return 1
	}
	return 0
}

func TestP3_2Order(t *testing.T) {
	for _, c := range []struct {
		a, b []api.Value
		want int
	}{
		{nil, nil, 0},
		{nil, row(null), -1},
		{row(number(1)), row(number(1), null), -1},
		{row(number(2)), row(number(1), null), 1},
		{row(number(1), text("z")), row(number(2), null), -1},
		{row(number(1), text("z")), row(number(1), blob("a")), -1},
		{row(null, number(-1), text("b")), row(null, number(-1), text("ab")), 1},
		{row(text("a"), null, null), row(text("a"), null), 1},
		{row(number(100)), row(number(20)), 1},
	} {
		if n := record.Order(c.a, c.b); n != c.want {
			t.Errorf("Order(%v, %v) = %d, want %d", c.a, c.b, n, c.want)
		}
		if n := record.Order(c.b, c.a); n != -c.want {
			t.Errorf("Order(%v, %v) = %d, want %d", c.b, c.a, n, -c.want)
		}
	}
}

// TestP3_4TotalOrder relies on rows being listed in increasing order: what agrees with a list is total.
func TestP3_4TotalOrder(t *testing.T) {
	l := rows(nil)
	for i, a := range l {
		for j, b := range l {
			if n := record.Order(a, b); n != sign(i-j) {
				t.Errorf("Order(%v, %v) = %d, want %d", a, b, n, sign(i-j))
			}
		}
	}
}

func TestP1NewMemory(t *testing.T) {
	l := row(number(5), text("abc"), blob("xyz"))
	kept := slices.Clone(l)
	b, _ := record.Write(l)
	c, _ := record.Write(l)
	b[0] = 99
	if !bytes.Equal(c, encoding(kept)) || !slices.Equal(l, kept) {
		t.Errorf("Write shares memory: %v %v", c, l)
	}
	d := slices.Clone(c)
	m, _ := record.Read(c)
	if !bytes.Equal(c, d) {
		t.Errorf("Read changed its argument: %v", c)
	}
	clear(c)
	if !slices.Equal(m, kept) {
		t.Errorf("Read kept its argument: %v", m)
	}
	n, _ := record.Read(d)
	m[0] = null
	if !slices.Equal(n, kept) {
		t.Errorf("Read gives memory out twice: %v", n)
	}
}

func TestP1BeyondTheLength(t *testing.T) {
	b := encoding(row(text("ab"), number(1)))
	for n := range b {
		if l, code := record.Read(b[:n]); len(l) > 0 || code != api.ErrForm {
			t.Errorf("Read went beyond %d: %v %v", n, l, code)
		}
	}
	l := row(number(1), api.Value{Kind: 9})
	if w, code := record.Write(l[:1]); !bytes.Equal(w, []byte{1, 1, 2}) || code != api.OK {
		t.Errorf("Write went beyond the length: %v %v", w, code)
	}
	if !record.Same(l[:1], row(number(1))) || record.Order(l[:1], row(number(1))) != 0 {
		t.Error("Same or Order went beyond the length")
	}
}

func TestP1NoPanic(t *testing.T) {
	lists := [][]api.Value{nil, invalid(), make([]api.Value, 1000), row(null, api.Value{Kind: 77, Int: 1, Text: "a"})}
	for _, a := range lists {
		record.Right(a)
		for _, b := range lists {
			record.Same(a, b)
			if n := record.Order(a, b); n < -1 || n > 1 {
				t.Errorf("Order = %d", n)
			}
		}
	}
}
