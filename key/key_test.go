package key_test

import (
	"bytes"
	"math"
	"slices"
	"strings"
	"testing"

	"hindsight/api"
	"hindsight/cell"
	"hindsight/key"
)

var null = api.Value{}

func number(n int64) api.Value { return api.Value{Kind: api.Int, Int: n} }
func text(s string) api.Value  { return api.Value{Kind: api.Text, Text: s} }
func blob(s string) api.Value  { return api.Value{Kind: api.Blob, Text: s} }

func tuple(l ...api.Value) []api.Value { return l }

// values are valid values in increasing order.
func values() []api.Value {
	l := tuple(null)
	for _, n := range []int64{math.MinInt64, math.MinInt64 + 1, -1 << 32, -256, -255, -2, -1, 0, 1, 2, 255, 256, 1 << 32, math.MaxInt64} {
		l = append(l, number(n))
	}
	words := []string{
		"", "\x00", "\x00\x00", "\x00\x01", "\x00\xff", "\x01", "\x01\x00", "a", "a\x00", "a\x00\x00", "a\x00b", "a\x01", "aa", "a\xff",
		"b", "\xff", "\xff\x00", "\xff\x01", "\xff\xff",
	}
	for _, s := range words {
		l = append(l, text(s))
	}
	for _, s := range words {
		l = append(l, blob(s))
	}
	return l
}

// invalid are values that are not valid.
func invalid() []api.Value {
	return []api.Value{
		{Int: 1}, {Text: "a"}, {Kind: api.Int, Text: "a"}, {Kind: api.Text, Int: 1},
		{Kind: api.Blob, Int: -1, Text: "a"}, {Kind: 4}, {Kind: 240}, {Kind: 255, Text: "a"},
	}
}

// tuples are tuples of at most two values in increasing order.
func tuples(prefix []api.Value) [][]api.Value {
	l := [][]api.Value{prefix}
	if len(prefix) == 2 {
		return l
	}
	for _, v := range values() {
		l = append(l, tuples(append(slices.Clone(prefix), v))...)
	}
	return l
}

// model is the key of a tuple by its definition.
func model(l []api.Value) []byte {
	var b []byte
	for _, v := range l {
		b = append(b, 16+v.Kind)
		switch v.Kind {
		case api.Int:
			n := uint64(v.Int) + 1<<63
			for i := 56; i >= 0; i -= 8 {
				b = append(b, byte(n>>i))
			}
		case api.Text, api.Blob:
			b = append(b, strings.ReplaceAll(v.Text, "\x00", "\x00\xff")+"\x00\x01"...)
		}
	}
	return b
}

func TestP4_1WriteKnown(t *testing.T) {
	for _, c := range []struct {
		l    []api.Value
		want []byte
	}{
		{nil, nil},
		{tuple(null), []byte{16}},
		{tuple(null, null), []byte{16, 16}},
		{tuple(number(0)), []byte{17, 128, 0, 0, 0, 0, 0, 0, 0}},
		{tuple(number(1)), []byte{17, 128, 0, 0, 0, 0, 0, 0, 1}},
		{tuple(number(258)), []byte{17, 128, 0, 0, 0, 0, 0, 1, 2}},
		{tuple(number(-1)), []byte{17, 127, 255, 255, 255, 255, 255, 255, 255}},
		{tuple(number(math.MinInt64)), []byte{17, 0, 0, 0, 0, 0, 0, 0, 0}},
		{tuple(number(math.MaxInt64)), []byte{17, 255, 255, 255, 255, 255, 255, 255, 255}},
		{tuple(text("")), []byte{18, 0, 1}},
		{tuple(text("a\x00b")), []byte{18, 'a', 0, 255, 'b', 0, 1}},
		{tuple(blob("\x00\xff")), []byte{19, 0, 255, 255, 0, 1}},
		{tuple(text("a"), null, blob("")), []byte{18, 'a', 0, 1, 16, 19, 0, 1}},
	} {
		b, code := key.Write(c.l)
		if !bytes.Equal(b, c.want) || code != api.OK {
			t.Errorf("Write(%v) = %v %v, want %v", c.l, b, code, c.want)
		}
	}
}

func TestP4_1WriteByDefinition(t *testing.T) {
	for _, l := range tuples(nil) {
		if b, code := key.Write(l); !bytes.Equal(b, model(l)) || code != api.OK {
			t.Errorf("Write(%v) = %v %v, want %v", l, b, code, model(l))
		}
	}
}

func TestP4_1TooManyValues(t *testing.T) {
	for n := range 20 {
		l := make([]api.Value, n)
		want, parts := api.OK, n
		if n > api.MaxColumns {
			want, parts = api.ErrForm, -1
		}
		b, code := key.Write(l)
		if code != want || len(b) > 0 && n > api.MaxColumns {
			t.Errorf("%d values: %v %v", n, b, code)
		}
		m, code := key.Read(model(l))
		if code != want || want == api.OK && !slices.Equal(m, l) || want != api.OK && len(m) > 0 {
			t.Errorf("read %d values: %v %v", n, m, code)
		}
		if p := key.Parts(model(l)); p != parts {
			t.Errorf("Parts of %d values = %d", n, p)
		}
	}
}

func TestP4_1InvalidValues(t *testing.T) {
	long := text(strings.Repeat("a", api.MaxKey+1))
	for _, bad := range invalid() {
		for _, l := range [][]api.Value{{bad}, {bad, null}, {null, bad}, {long, bad}, {bad, long}, {number(1), bad, text("a")}} {
			if b, code := key.Write(l); len(b) > 0 || code != api.ErrForm {
				t.Errorf("Write with %v = %v %v", bad, b, code)
			}
		}
	}
	if _, code := key.Write(append(make([]api.Value, api.MaxColumns), long)); code != api.ErrForm {
		t.Errorf("too many and too long: %v", code)
	}
}

func TestP4_1WriteLimit(t *testing.T) {
	// A string without zeros has three bytes more in its key.
	one := func(n int) []api.Value { return tuple(text(strings.Repeat("a", n))) }
	zeros := func(n int) []api.Value { return tuple(blob(strings.Repeat("\x00", n))) }
	eleven := slices.Repeat(tuple(number(7)), 11)
	for _, c := range []struct {
		l    []api.Value
		code api.Errno
	}{
		{one(97), api.OK}, {one(98), api.ErrLong}, {one(99), api.ErrLong}, {one(100), api.ErrLong}, {one(101), api.ErrLong}, {one(1 << 20), api.ErrLong},
		{zeros(48), api.OK}, {zeros(49), api.ErrLong}, {zeros(100), api.ErrLong},
		{append(zeros(48), null), api.OK}, {append(zeros(48), null, null), api.ErrLong},
		{eleven, api.OK}, {append(eleven, null), api.OK}, {append(eleven, null, null), api.ErrLong}, {append(eleven, number(1)), api.ErrLong},
	} {
		b, code := key.Write(c.l)
		if code != c.code || code != api.OK && len(b) > 0 {
			t.Errorf("%d bytes: %d bytes %v, want %v", len(model(c.l)), len(b), code, c.code)
		}
		if code == api.OK && !bytes.Equal(b, model(c.l)) {
			t.Errorf("Write(%v) = %v", c.l, b)
		}
	}
}

func TestP4_1ReadLimit(t *testing.T) {
	good := model(tuple(text(strings.Repeat("a", 97))))
	if l, code := key.Read(good); len(l) != 1 || code != api.OK {
		t.Errorf("%d bytes: %v %v", len(good), l, code)
	}
	for _, b := range [][]byte{model(tuple(text(strings.Repeat("a", 98)))), append(good, 16), make([]byte, 101), bytes.Repeat([]byte{16}, 101)} {
		if l, code := key.Read(b); len(l) > 0 || code != api.ErrLong {
			t.Errorf("%d bytes: %v %v", len(b), l, code)
		}
	}
	for _, b := range [][]byte{make([]byte, 100), bytes.Repeat([]byte{16}, 100), bytes.Repeat([]byte{255}, 100)} {
		if l, code := key.Read(b); len(l) > 0 || code != api.ErrForm {
			t.Errorf("%d bytes: %v %v", len(b), l, code)
		}
	}
}

func TestP4_1ReadWrong(t *testing.T) {
	for _, b := range [][]byte{
		{0}, {1}, {15}, {20}, {255}, {16, 0}, {16, 20}, {0, 16},
		{17}, {17, 128}, {17, 128, 0, 0, 0, 0, 0, 0}, {17, 128, 0, 0, 0, 0, 0, 0, 0, 0}, {17, 128, 0, 0, 0, 0, 0, 16},
		{18}, {18, 'a'}, {18, 0}, {18, 'a', 0}, {18, 0, 0}, {18, 0, 2}, {18, 0, 254}, {18, 0, 255}, {18, 0, 0, 1}, {18, 'a', 0, 0, 1}, {18, 'a', 1},
		{18, 0, 1, 0}, {18, 0, 1, 1}, {18, 0, 1, 'a', 0, 1}, {18, 0, 255, 0}, {18, 0, 255, 1}, {18, 0, 255, 255}, {18, 0, 2, 0, 1}, {18, 0, 'a', 0, 1},
		{19}, {19, 0}, {19, 0, 0}, {19, 0, 255, 0}, {19, 'a'},
		{19, 0, 1, 18}, {16, 17}, {16, 18, 0},
	} {
		if l, code := key.Read(b); len(l) > 0 || code != api.ErrForm {
			t.Errorf("Read(%v) = %v %v", b, l, code)
		}
		if n := key.Parts(b); n != -1 {
			t.Errorf("Parts(%v) = %d", b, n)
		}
	}
}

func TestP4_1Parts(t *testing.T) {
	if n := key.Parts(nil); n != 0 {
		t.Errorf("Parts of no bytes = %d", n)
	}
	for _, l := range tuples(nil) {
		if n := key.Parts(model(l)); n != len(l) {
			t.Errorf("Parts(%v) = %d, want %d", model(l), n, len(l))
		}
	}
	// A key has no greatest length but for Write and Read.
	for _, l := range [][]api.Value{
		{text(strings.Repeat("a", 98))}, {text(strings.Repeat("\x00", 300)), null}, slices.Repeat(tuple(number(7)), 12), slices.Repeat(tuple(number(7)), 16),
	} {
		if n := key.Parts(model(l)); n != len(l) {
			t.Errorf("Parts of %d bytes = %d, want %d", len(model(l)), n, len(l))
		}
		if n := key.Parts(append(model(l), 0)); n != -1 {
			t.Errorf("Parts of wrong bytes = %d", n)
		}
	}
	if n := key.Parts(model(slices.Repeat(tuple(number(7)), 17))); n != -1 {
		t.Errorf("Parts of 17 values = %d", n)
	}
}

func TestP4_3RoundTrip(t *testing.T) {
	for _, l := range tuples(nil) {
		b, _ := key.Write(l)
		if m, code := key.Read(b); code != api.OK || !slices.Equal(m, l) {
			t.Errorf("Read(Write(%v)) = %v %v", l, m, code)
		}
	}
}

// visit calls f with every byte string of at most n bytes out of alphabet.
func visit(alphabet []byte, n int, b []byte, f func(b []byte)) {
	f(b)
	if n == 0 {
		return
	}
	for _, c := range alphabet {
		visit(alphabet, n-1, append(b[:len(b):len(b)], c), f)
	}
}

func TestP4_3OneKey(t *testing.T) {
	found := 0
	check := func(b []byte) {
		l, code := key.Read(b)
		if code != api.OK {
			return
		}
		found++
		if w, code := key.Write(l); !bytes.Equal(w, b) || code != api.OK || key.Parts(b) != len(l) {
			t.Errorf("Write(Read(%v)) = %v %v", b, w, code)
		}
	}
	visit([]byte{0, 1, 2, 15, 16, 17, 18, 19, 20, 255}, 6, nil, check)
	visit([]byte{0, 128, 255}, 9, []byte{17}, check)
	if found < 1000 {
		t.Errorf("%d keys found", found)
	}
}

func sign(n int) int {
	switch {
	case n < 0:
		return -1
	case n > 0:
		return 1
	}
	return 0
}

// TestP4_3Order relies on tuples being listed in increasing order, value by value.
func TestP4_3Order(t *testing.T) {
	l := tuples(nil)
	var keys [][]byte
	for _, l := range l {
		b, _ := key.Write(l)
		keys = append(keys, b)
	}
	for i, a := range keys {
		if i > 0 && slices.CompareFunc(l[i-1], l[i], cell.Order) != -1 {
			t.Fatalf("%v and %v are not in order", l[i-1], l[i])
		}
		for j, b := range keys {
			if n := bytes.Compare(a, b); n != sign(i-j) {
				t.Errorf("keys of %v and %v are in order %d, want %d", l[i], l[j], n, sign(i-j))
			}
		}
	}
}

func TestP4_4Prefixes(t *testing.T) {
	l := tuple(null, number(-3), text("a\x00"), blob(""), number(9), text("b"))
	whole, _ := key.Write(l)
	for n := range l {
		front, _ := key.Write(l[:n])
		if !bytes.HasPrefix(whole, front) || !key.Begins(whole, front) {
			t.Errorf("%v does not begin with %v", whole, front)
		}
	}
	for _, l := range tuples(nil) {
		whole, front := model(l), model(l[:max(len(l)-1, 0)])
		next, some := key.Next(front)
		if some != (len(front) > 0) || !key.Begins(whole, front) {
			t.Errorf("Next(%v) = %v %v", front, next, some)
		}
		if bytes.Compare(whole, front) < 0 || some && bytes.Compare(whole, next) >= 0 {
			t.Errorf("%v is not between %v and %v", whole, front, next)
		}
	}
}

func TestP4_2NextKnown(t *testing.T) {
	for _, c := range []struct {
		b, want []byte
		some    bool
	}{
		{nil, nil, false},
		{[]byte{}, nil, false},
		{[]byte{255}, nil, false},
		{[]byte{255, 255, 255}, nil, false},
		{[]byte{0}, []byte{1}, true},
		{[]byte{254}, []byte{255}, true},
		{[]byte{1, 255}, []byte{2}, true},
		{[]byte{1, 255, 255}, []byte{2}, true},
		{[]byte{255, 0}, []byte{255, 1}, true},
		{[]byte{255, 254, 255}, []byte{255, 255}, true},
		{[]byte{1, 255, 3}, []byte{1, 255, 4}, true},
		{[]byte{16}, []byte{17}, true},
	} {
		if n, some := key.Next(c.b); !bytes.Equal(n, c.want) || some != c.some {
			t.Errorf("Next(%v) = %v %v, want %v %v", c.b, n, some, c.want, c.some)
		}
	}
}

func TestP4_2NextIsLeast(t *testing.T) {
	var all [][]byte
	visit([]byte{0, 1, 254, 255}, 3, nil, func(b []byte) { all = append(all, b) })
	for _, b := range all {
		next, some := key.Next(b)
		for _, c := range all {
			// Above all that begin with b is what is above b and does not begin with it.
			above := bytes.Compare(c, b) > 0 && !bytes.HasPrefix(c, b)
			if above != (some && bytes.Compare(c, next) >= 0) {
				t.Errorf("Next(%v) = %v %v, but %v", b, next, some, c)
			}
		}
	}
}

func TestP4_2Begins(t *testing.T) {
	var all [][]byte
	visit([]byte{0, 1, 255}, 3, nil, func(b []byte) { all = append(all, b) })
	for _, b := range all {
		for _, front := range all {
			want := len(front) <= len(b) && string(b[:min(len(front), len(b))]) == string(front)
			if key.Begins(b, front) != want {
				t.Errorf("Begins(%v, %v) = %v", b, front, !want)
			}
		}
	}
}

func TestP1NewMemory(t *testing.T) {
	l := tuple(number(5), text("abc"), blob("x\x00z"))
	kept := slices.Clone(l)
	b, _ := key.Write(l)
	c, _ := key.Write(l)
	clear(b)
	if !bytes.Equal(c, model(kept)) || !slices.Equal(l, kept) {
		t.Errorf("Write shares memory: %v %v", c, l)
	}
	m, _ := key.Read(c)
	n, _ := key.Read(c)
	if !bytes.Equal(c, model(kept)) {
		t.Errorf("Read changed its argument: %v", c)
	}
	clear(c)
	m[0] = null
	if !slices.Equal(n, kept) {
		t.Errorf("Read shares memory: %v", n)
	}
	front := []byte{1, 2, 255}
	next, _ := key.Next(front)
	next[0] = 9
	if !bytes.Equal(front, []byte{1, 2, 255}) {
		t.Errorf("Next shares memory: %v", front)
	}
}

func TestP1BeyondTheLength(t *testing.T) {
	b := model(tuple(text("ab"), number(1)))
	whole := []int{0, 5, len(b)}
	for n := range len(b) + 1 {
		_, code := key.Read(b[:n])
		if ok := slices.Contains(whole, n); (code == api.OK) != ok || (key.Parts(b[:n]) >= 0) != ok {
			t.Errorf("Read of %d of %v: %v", n, b, code)
		}
	}
	l := tuple(null, api.Value{Kind: 9})
	if w, code := key.Write(l[:1]); !bytes.Equal(w, []byte{16}) || code != api.OK {
		t.Errorf("Write went beyond the length: %v %v", w, code)
	}
	if n, some := key.Next(b[:1]); !bytes.Equal(n, []byte{19}) || !some || key.Begins(b[:1], b[:2]) {
		t.Errorf("Next went beyond the length: %v", n)
	}
	if !bytes.Equal(b, model(tuple(text("ab"), number(1)))) {
		t.Errorf("memory beyond the length has changed: %v", b)
	}
}

func TestP1NoPanic(t *testing.T) {
	for c := range 256 {
		for n := range 12 {
			b := bytes.Repeat([]byte{byte(c)}, n)
			key.Read(b)
			key.Parts(b)
			key.Next(b)
			key.Begins(b, b)
			key.Begins(nil, b)
		}
	}
	key.Write(invalid())
	key.Write(make([]api.Value, 1000))
}
