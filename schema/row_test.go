package schema_test

import (
	"bytes"
	"math"
	"slices"
	"strings"
	"testing"

	"hindsight/api"
	"hindsight/key"
	"hindsight/period"
	"hindsight/schema"
)

// holds holds all functions of a row against the definition, and returns the error.
func holds(t *testing.T, x table, r row) api.Errno {
	t.Helper()
	was, before := with(x, func(*table) {}), slices.Clone(r)
	want := errorOf(x, r)
	if code := schema.Check(x, r); code != want {
		t.Fatalf("Check(%+v, %v) = %v, want %v", x, r, code, want)
	}
	var all, front []byte
	var span period.Span
	if want == api.OK {
		l := parts(x, r)
		all, _ = key.Write(l)
		front, _ = key.Write(l[:len(x.Key)])
		if x.Period != "" {
			span = period.Span{From: r[x.From].Int, To: r[x.To].Int}
		}
	}
	if b, code := schema.KeyOf(x, r); code != want || !bytes.Equal(b, all) {
		t.Fatalf("KeyOf(%+v, %v) = %v %v, want %v %v", x, r, b, code, all, want)
	}
	if b, code := schema.FrontOf(x, r); code != want || !bytes.Equal(b, front) {
		t.Fatalf("FrontOf(%+v, %v) = %v %v, want %v %v", x, r, b, code, front, want)
	}
	if s, is := schema.SpanOf(x, r); s != span || is != (want == api.OK && x.Period != "") {
		t.Fatalf("SpanOf(%+v, %v) = %v %v, want %v", x, r, s, is, span)
	}
	if !equal(x, was) || !slices.Equal(r, before) {
		t.Fatalf("the arguments have become %+v and %v", x, r)
	}
	return want
}

// wants holds all functions of a row against an error.
func wants(t *testing.T, x table, r row, want api.Errno) {
	t.Helper()
	if code := holds(t, x, r); code != want {
		t.Errorf("the error of %v is %v, want %v", r, code, want)
	}
}

func TestP15_2Known(t *testing.T) {
	for _, c := range []struct {
		t    table
		r    row
		want api.Errno
	}{
		{plain(), row{number(1), text("x")}, api.OK},
		{plain(), row{number(1), null}, api.OK},
		{plain(), row{number(math.MinInt64), text("")}, api.OK},
		{plain(), row{number(math.MaxInt64), text("\xff\x00")}, api.OK},
		{plain(), row{null, null}, api.ErrNull},
		{plain(), row{null, text("x")}, api.ErrNull},
		{plain(), row{text("x"), text("x")}, api.ErrType},
		{plain(), row{blob("x"), text("x")}, api.ErrType},
		{plain(), row{number(1), number(1)}, api.ErrType},
		{plain(), row{number(1), blob("x")}, api.ErrType},
		{plain(), row{{Kind: api.Int, Text: "x"}, text("x")}, api.ErrForm},
		{plain(), row{number(1), {Int: 1}}, api.ErrForm},
		{plain(), row{number(1), {Kind: 4}}, api.ErrForm},
		{plain(), nil, api.ErrArg},
		{plain(), row{}, api.ErrArg},
		{plain(), row{number(1)}, api.ErrArg},
		{plain(), row{number(1), text("x"), null}, api.ErrArg},
		{apart(), row{number(1), text("x"), null, number(2)}, api.OK},
		{apart(), row{number(1), text("x"), blob("x"), number(2)}, api.OK},
		{apart(), row{number(math.MinInt64), text("x"), null, number(math.MaxInt64)}, api.OK},
		{apart(), row{number(2), text("x"), null, number(2)}, api.ErrEmpty},
		{apart(), row{number(3), text("x"), null, number(2)}, api.ErrEmpty},
		{apart(), row{number(math.MaxInt64), text("x"), null, number(math.MinInt64)}, api.ErrEmpty},
		{booked(), row{number(2), text("x"), null, number(2)}, api.ErrEmpty},
		{booked(), row{number(1), text("x"), null, number(2)}, api.OK},
	} {
		wants(t, c.t, c.r, c.want)
	}
}

// TestP15_2First has rows with several errors: that of the first column counts, and one of a column ahead of those of the row.
func TestP15_2First(t *testing.T) {
	long := text(strings.Repeat("x", 100))
	for _, c := range []struct {
		t    table
		r    row
		want api.Errno
	}{
		{plain(), row{null, {Int: 1}}, api.ErrNull},
		{plain(), row{text("x"), {Int: 1}}, api.ErrType},
		{plain(), row{text("x"), number(1)}, api.ErrType},
		{plain(), row{null, number(1)}, api.ErrNull},
		{plain(), row{{Int: 1}, number(1)}, api.ErrForm},
		{plain(), row{{Kind: api.Text, Int: 1}, null}, api.ErrForm}, // also of another kind
		{plain(), row{{Text: "x"}, null}, api.ErrForm},              // not null, as it is not valid
		{plain(), row{null, {Int: 1}, null}, api.ErrArg},
		{plain(), row{{Int: 1}}, api.ErrArg},
		{apart(), row{number(2), text("x"), number(1), number(1)}, api.ErrType},
		{apart(), row{number(2), text("x"), null, null}, api.ErrNull},
		{apart(), row{number(2), text("x"), null, text("")}, api.ErrType},
		{apart(), row{number(2), long, null, number(1)}, api.ErrEmpty},
		{apart(), row{number(2), long, number(1), number(1)}, api.ErrType},
		{apart(), row{number(1), long, null, number(2)}, api.ErrLong},
		{apart(), row{number(1), long, null, null}, api.ErrNull},
		{booked(), row{number(2), long, null, number(2)}, api.ErrEmpty},
	} {
		wants(t, c.t, c.r, c.want)
	}
}

func TestP15_2NotValid(t *testing.T) {
	for _, x := range wrong() {
		for _, r := range []row{nil, {}, make(row, len(x.Columns)), {number(1), text("x"), null, number(2)}, {number(1), text("x")}, {{Int: 1}}} {
			wants(t, x, r, api.ErrForm)
		}
	}
}

// TestP15_2Long has keys of the greatest length, and of one more.
func TestP15_2Long(t *testing.T) {
	names := func(kind uint8) table {
		return with(plain(), func(t *table) { t.Columns[0].Kind = kind })
	}
	for n := range 200 {
		s := strings.Repeat("x", n)
		zeros := strings.Repeat("\x00", n)
		wants(t, names(api.Text), row{text(s), null}, long(n+3))
		wants(t, names(api.Blob), row{blob(s), null}, long(n+3))
		wants(t, names(api.Blob), row{blob(zeros), null}, long(2*n+3))
		wants(t, booked(), row{number(1), text(s), null, number(2)}, long(n+3))
		// The beginning of the period belongs to the key.
		wants(t, apart(), row{number(1), text(s), null, number(2)}, long(n+3+9))
		// What is not in the key may be of any length.
		wants(t, plain(), row{number(1), text(s)}, api.OK)
		wants(t, apart(), row{number(1), text("x"), blob(zeros), number(2)}, api.OK)
	}
	wants(t, plain(), row{number(1), text(strings.Repeat("x", 1<<20))}, api.OK)
	wants(t, names(api.Text), row{text(strings.Repeat("x", 1<<20)), null}, api.ErrLong)
}

// long is the error of a key of that many bytes.
func long(size int) api.Errno {
	if size > 80 {
		return api.ErrLong
	}
	return api.OK
}

// TestP15_2Numbers has a key of eight integers, of 72 bytes, which is too long with the beginning of a period.
func TestP15_2Numbers(t *testing.T) {
	x := numbers()
	r := make(row, 10)
	for i := range r {
		r[i] = number(int64(i))
	}
	wants(t, x, r, api.OK)
	x.Period, x.From, x.To = "p", 8, 9
	wants(t, x, r, api.OK)
	x.Apart = true
	wants(t, x, r, api.ErrLong)
	x.Key = x.Key[:7]
	wants(t, x, r, api.OK)
	if b, _ := schema.KeyOf(x, r); len(b) != 72 {
		t.Errorf("KeyOf = %d bytes", len(b))
	}
}

// TestP15_2Order has keys in the order of Key, whatever that of the columns.
func TestP15_2Order(t *testing.T) {
	x := with(apart(), func(t *table) { t.Columns[2].NotNull, t.Key = true, []int{2, 1} })
	r := row{number(7), text("id"), blob("note"), number(9)}
	front := "\x13note\x00\x01\x12id\x00\x01"
	if b, code := schema.FrontOf(x, r); string(b) != front || code != api.OK {
		t.Errorf("FrontOf = %q %v", b, code)
	}
	if b, code := schema.KeyOf(x, r); string(b) != front+"\x11\x80\x00\x00\x00\x00\x00\x00\x07" || code != api.OK {
		t.Errorf("KeyOf = %q %v", b, code)
	}
	x.Apart = false
	if b, code := schema.KeyOf(x, r); string(b) != front || code != api.OK {
		t.Errorf("KeyOf = %q %v", b, code)
	}
	if s, is := schema.SpanOf(x, r); s != (period.Span{From: 7, To: 9}) || !is {
		t.Errorf("SpanOf = %v %v", s, is)
	}
	// The beginning of a period may be the later column.
	x.From, x.To = 3, 0
	wants(t, x, r, api.ErrEmpty)
	r[0], r[3] = r[3], r[0]
	if s, is := schema.SpanOf(x, r); s != (period.Span{From: 7, To: 9}) || !is {
		t.Errorf("SpanOf = %v %v", s, is)
	}
	x.Apart = true
	if b, code := schema.KeyOf(x, r); string(b) != front+"\x11\x80\x00\x00\x00\x00\x00\x00\x07" || code != api.OK {
		t.Errorf("KeyOf = %q %v", b, code)
	}
}

func TestP15_2NoPeriod(t *testing.T) {
	for _, r := range []row{{number(1), null}, {null, null}, {number(1)}} {
		if s, is := schema.SpanOf(plain(), r); s != (period.Span{}) || is {
			t.Errorf("SpanOf = %v %v", s, is)
		}
	}
	// A column is no period because its name is that of one.
	x := with(booked(), func(t *table) { t.Period, t.From, t.To = "", -1, -1 })
	wants(t, x, row{number(9), text("x"), null, number(1)}, api.OK)
}

// TestP15_2Random holds random rows of random tables against the definition.
func TestP15_2Random(t *testing.T) {
	next := chance(4)
	seen := map[api.Errno]int{}
	for range 60000 {
		x := next.table()
		seen[holds(t, x, next.row(x))]++
	}
	for _, code := range []api.Errno{api.OK, api.ErrForm, api.ErrArg, api.ErrNull, api.ErrType, api.ErrEmpty, api.ErrLong} {
		if seen[code] < 100 {
			t.Errorf("%v: %d", code, seen[code])
		}
	}
}

// TestP15_2Memory holds that keys are new memory.
func TestP15_2Memory(t *testing.T) {
	x, r := apart(), row{number(1), text("x"), null, number(2)}
	for _, of := range []func(t table, r row) ([]byte, api.Errno){schema.KeyOf, schema.FrontOf} {
		a, _ := of(x, r)
		b, _ := of(x, r)
		clear(a[:cap(a)])
		if c, _ := of(x, r); !bytes.Equal(b, c) {
			t.Error("two keys share memory")
		}
	}
}

// TestP15_4 holds that two valid rows have the same key exactly if the values are equal of which it consists.
func TestP15_4(t *testing.T) {
	next := chance(5)
	same := 0
	for _, x := range tables() {
		var rows []row
		for range 60 {
			if r := next.row(x); schema.Check(x, r) == api.OK {
				rows = append(rows, r)
			}
		}
		for _, a := range rows {
			for _, b := range rows {
				want := slices.Equal(parts(x, a), parts(x, b))
				k, _ := schema.KeyOf(x, a)
				l, _ := schema.KeyOf(x, b)
				if bytes.Equal(k, l) != want {
					t.Errorf("%v and %v have the keys %v and %v", a, b, k, l)
				}
				if want && !slices.Equal(a, b) {
					same++
				}
			}
		}
	}
	if same < 100 {
		t.Errorf("%d pairs of rows have the same key", same)
	}
}

// TestP15_4Front holds that rows which differ in From alone have different keys only if the table is Apart.
func TestP15_4Front(t *testing.T) {
	a, b := row{number(1), text("x"), null, number(9)}, row{number(2), text("x"), null, number(9)}
	c := row{number(1), text("x"), blob("n"), number(8)}
	for _, apart := range []bool{false, true} {
		x := with(booked(), func(t *table) { t.Apart = apart })
		k, _ := schema.KeyOf(x, a)
		l, _ := schema.KeyOf(x, b)
		m, _ := schema.KeyOf(x, c)
		if bytes.Equal(k, l) == apart || !bytes.Equal(k, m) {
			t.Errorf("Apart %v: the keys are %v, %v and %v", apart, k, l, m)
		}
		f, _ := schema.FrontOf(x, a)
		g, _ := schema.FrontOf(x, b)
		if !bytes.Equal(f, g) || !bytes.HasPrefix(k, f) || !bytes.HasPrefix(l, g) {
			t.Errorf("Apart %v: the fronts are %v and %v", apart, f, g)
		}
	}
}
