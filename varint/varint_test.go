package varint_test

import (
	"bytes"
	"math"
	"strings"
	"testing"

	"hindsight/api"
	"hindsight/varint"
)

// edges are the integers around each power of two.
func edges() []uint64 {
	l := []uint64{0, 300, math.MaxUint64}
	for i := range 64 {
		p := uint64(1) << i
		l = append(l, p-1, p, p+1)
	}
	return l
}

// integers are the same around each power of two and its negative.
func integers() []int64 {
	l := []int64{math.MinInt64, math.MaxInt64}
	for i := range 63 {
		p := int64(1) << i
		l = append(l, p-1, p, p+1, -p-1, -p, -p+1)
	}
	return l
}

// groups is the encoding by its definition.
func groups(v uint64) []byte {
	b := []byte{byte(v % 128)}
	for v /= 128; v > 0; v /= 128 {
		b[len(b)-1] += 128
		b = append(b, byte(v%128))
	}
	return b
}

// nine is nine bytes c followed by tail.
func nine(c byte, tail ...byte) []byte {
	return append(bytes.Repeat([]byte{c}, 9), tail...)
}

func TestP1_1PutKnown(t *testing.T) {
	for _, c := range []struct {
		v    uint64
		want []byte
	}{
		{0, []byte{0}},
		{1, []byte{1}},
		{127, []byte{127}},
		{128, []byte{128, 1}},
		{300, []byte{172, 2}},
		{16383, []byte{255, 127}},
		{16384, []byte{128, 128, 1}},
		{1<<63 - 1, []byte{255, 255, 255, 255, 255, 255, 255, 255, 127}},
		{1 << 63, nine(128, 1)},
		{math.MaxUint64, nine(255, 1)},
	} {
		if b := varint.Put(c.v); !bytes.Equal(b, c.want) {
			t.Errorf("Put(%d) = %v, want %v", c.v, b, c.want)
		}
	}
}

func TestP1_1PutByDefinition(t *testing.T) {
	for _, v := range edges() {
		if b := varint.Put(v); !bytes.Equal(b, groups(v)) {
			t.Errorf("Put(%d) = %v, want %v", v, b, groups(v))
		}
	}
}

func TestP1_1Get(t *testing.T) {
	for _, c := range []struct {
		b    []byte
		at   int
		v    uint64
		end  int
		code api.Errno
	}{
		{[]byte{0}, 0, 0, 1, api.OK},
		{[]byte{127, 9}, 0, 127, 1, api.OK},
		{[]byte{9, 172, 2, 9}, 1, 300, 3, api.OK},
		{[]byte{5, 6}, 1, 6, 2, api.OK},
		{nine(128, 1), 0, 1 << 63, 10, api.OK},
		{nine(255, 1, 7), 0, math.MaxUint64, 10, api.OK},
		{append([]byte{9, 9}, nine(255, 1, 7)...), 2, math.MaxUint64, 12, api.OK},

		{[]byte{0}, -1, 0, 0, api.ErrArg},
		{[]byte{0}, 2, 0, 0, api.ErrArg},
		{nil, 1, 0, 0, api.ErrArg},
		{nil, math.MaxInt, 0, 0, api.ErrArg},
		{[]byte{0}, math.MinInt, 0, 0, api.ErrArg},

		{nil, 0, 0, 0, api.ErrShort},
		{[]byte{0}, 1, 0, 0, api.ErrShort},
		{[]byte{128}, 0, 0, 0, api.ErrShort},
		{[]byte{1, 255, 255}, 1, 0, 0, api.ErrShort},
		{nine(255), 0, 0, 0, api.ErrShort},
		{nine(128), 0, 0, 0, api.ErrShort},

		{[]byte{128, 0}, 0, 0, 0, api.ErrForm},
		{[]byte{255, 128, 0, 1}, 0, 0, 0, api.ErrForm},
		{nine(128, 0), 0, 0, 0, api.ErrForm},
		{nine(255, 0), 0, 0, 0, api.ErrForm},
		{nine(128, 2), 0, 0, 0, api.ErrForm},
		{nine(255, 3, 1), 0, 0, 0, api.ErrForm},
		{nine(128, 127), 0, 0, 0, api.ErrForm},
		{nine(128, 128), 0, 0, 0, api.ErrForm},
		{nine(128, 129, 1), 0, 0, 0, api.ErrForm},
		{nine(255, 255), 0, 0, 0, api.ErrForm},
		{append([]byte{0}, nine(200, 2)...), 1, 0, 0, api.ErrForm},
	} {
		v, end, code := varint.Get(c.b, c.at)
		if v != c.v || end != c.end || code != c.code {
			t.Errorf("Get(%v, %d) = %d %d %v, want %d %d %v", c.b, c.at, v, end, code, c.v, c.end, c.code)
		}
	}
}

func TestP1_1GetStopsAtLength(t *testing.T) {
	b := []byte{172, 2, 7}
	if v, end, code := varint.Get(b[:1], 0); v != 0 || end != 0 || code != api.ErrShort {
		t.Errorf("Get of a cut slice = %d %d %v", v, end, code)
	}
	if _, _, code := varint.Get(b[:1], 2); code != api.ErrArg {
		t.Errorf("Get behind a cut slice = %v", code)
	}
	if !bytes.Equal(b, []byte{172, 2, 7}) {
		t.Errorf("Get changed its argument: %v", b)
	}
}

func TestP1_2Zigzag(t *testing.T) {
	for _, c := range []struct {
		n int64
		v uint64
	}{
		{0, 0}, {-1, 1}, {1, 2}, {-2, 3}, {2, 4},
		{63, 126}, {-64, 127}, {64, 128}, {-65, 129},
		{math.MaxInt64, math.MaxUint64 - 1}, {math.MinInt64, math.MaxUint64},
		{1 << 62, 1 << 63}, {-1 << 62, 1<<63 - 1},
	} {
		if v := varint.Zig(c.n); v != c.v {
			t.Errorf("Zig(%d) = %d, want %d", c.n, v, c.v)
		}
		if n := varint.Zag(c.v); n != c.n {
			t.Errorf("Zag(%d) = %d, want %d", c.v, n, c.n)
		}
	}
	for _, v := range edges() {
		if got := varint.Zig(varint.Zag(v)); got != v {
			t.Errorf("Zig(Zag(%d)) = %d", v, got)
		}
	}
}

func TestP1_2Ints(t *testing.T) {
	for _, n := range integers() {
		b := varint.PutInt(n)
		if !bytes.Equal(b, varint.Put(varint.Zig(n))) {
			t.Errorf("PutInt(%d) = %v", n, b)
		}
		got, end, code := varint.GetInt(append([]byte{255}, b...), 1)
		if got != n || end != len(b)+1 || code != api.OK {
			t.Errorf("GetInt of %d = %d %d %v", n, got, end, code)
		}
	}
	if b := varint.PutInt(math.MinInt64); !bytes.Equal(b, nine(255, 1)) {
		t.Errorf("PutInt of the smallest integer = %v", b)
	}
}

func TestP1_2IntErrors(t *testing.T) {
	for _, c := range []struct {
		b    []byte
		at   int
		code api.Errno
	}{
		{[]byte{1}, -1, api.ErrArg},
		{[]byte{1}, 2, api.ErrArg},
		{[]byte{1}, 1, api.ErrShort},
		{[]byte{129}, 0, api.ErrShort},
		{[]byte{129, 0}, 0, api.ErrForm},
		{nine(255, 2), 0, api.ErrForm},
		{nine(255, 129), 0, api.ErrForm},
	} {
		if n, end, code := varint.GetInt(c.b, c.at); n != 0 || end != 0 || code != c.code {
			t.Errorf("GetInt(%v, %d) = %d %d %v, want %v", c.b, c.at, n, end, code, c.code)
		}
	}
}

func TestP1_3Texts(t *testing.T) {
	long := strings.Repeat("ab\x00\xff", 75)
	for _, c := range []struct {
		s    string
		want string
	}{
		{"", "\x00"},
		{"a", "\x01a"},
		{"\x00\xff", "\x02\x00\xff"},
		{long, "\xac\x02" + long},
		{long[:127], "\x7f" + long[:127]},
		{long[:128], "\x80\x01" + long[:128]},
	} {
		b := varint.PutText(c.s)
		if string(b) != c.want {
			t.Errorf("PutText(%q) = %q, want %q", c.s, b, c.want)
		}
		s, end, code := varint.GetText([]byte("?"+c.want+"?"), 1)
		if s != c.s || end != len(c.want)+1 || code != api.OK {
			t.Errorf("GetText of %q = %q %d %v", c.s, s, end, code)
		}
	}
}

func TestP1_3TextErrors(t *testing.T) {
	for _, c := range []struct {
		b    []byte
		at   int
		code api.Errno
	}{
		{[]byte{0}, -1, api.ErrArg},
		{[]byte{0}, 2, api.ErrArg},
		{nil, 0, api.ErrShort},
		{[]byte{128}, 0, api.ErrShort},
		{[]byte{130, 0, 1, 1}, 0, api.ErrForm},
		{nine(255, 2), 0, api.ErrForm},
		{[]byte{1}, 0, api.ErrShort},
		{[]byte{3, 97, 98}, 0, api.ErrShort},
		{[]byte{9, 3, 97, 98}, 1, api.ErrShort},
		{append(varint.Put(1<<63), 97), 0, api.ErrShort},
		{append(varint.Put(1<<63-1), 97), 0, api.ErrShort},
		{append(varint.Put(1<<32), 97), 0, api.ErrShort},
		{append(varint.Put(1<<32|1), 97), 0, api.ErrShort},
		{append(varint.Put(math.MaxUint64), 97, 98), 0, api.ErrShort},
		{[]byte{2, 97, 98}[:2], 0, api.ErrShort},
	} {
		if s, end, code := varint.GetText(c.b, c.at); s != "" || end != 0 || code != c.code {
			t.Errorf("GetText(%v, %d) = %q %d %v, want %v", c.b, c.at, s, end, code, c.code)
		}
	}
}

func TestP1_3TextIsNewMemory(t *testing.T) {
	b := []byte{2, 97, 98}
	s, _, _ := varint.GetText(b, 0)
	b[1] = 'x'
	if s != "ab" {
		t.Errorf("GetText kept its argument: %q", s)
	}
}

func TestP1_1PutIsNewMemory(t *testing.T) {
	for _, f := range []func() []byte{
		func() []byte { return varint.Put(300) },
		func() []byte { return varint.PutInt(-300) },
		func() []byte { return varint.PutText("ab") },
	} {
		a, b := f(), f()
		want := bytes.Clone(b)
		clear(a)
		if !bytes.Equal(b, want) || !bytes.Equal(f(), want) {
			t.Errorf("two encodings share memory: %v, want %v", b, want)
		}
	}
}

func TestP1_4Concatenated(t *testing.T) {
	var b []byte
	for _, v := range edges() {
		b = append(b, varint.Put(v)...)
		b = append(b, varint.PutInt(varint.Zag(v))...)
		b = append(b, varint.PutText(strings.Repeat("\x80", int(v%200)))...)
	}
	at := 0
	for _, v := range edges() {
		u, next, code := varint.Get(b, at)
		n, next2, code2 := varint.GetInt(b, next)
		s, next3, code3 := varint.GetText(b, next2)
		if u != v || n != varint.Zag(v) || s != strings.Repeat("\x80", int(v%200)) {
			t.Fatalf("at %d: %d %d %q, want those of %d", at, u, n, s, v)
		}
		if code != api.OK || code2 != api.OK || code3 != api.OK || next <= at || next2 <= next || next3 <= next2 {
			t.Fatalf("at %d: %v %v %v, %d %d %d", at, code, code2, code3, next, next2, next3)
		}
		at = next3
	}
	if at != len(b) {
		t.Errorf("%d bytes read of %d", at, len(b))
	}
}

// strings of up to 11 bytes over a few bytes at the edges: what is read is written in the same way.
func TestP1_4OneEncoding(t *testing.T) {
	alphabet := []byte{0, 1, 2, 127, 128, 255}
	check := func(b []byte) {
		v, end, code := varint.Get(b, 0)
		if code == api.OK && !bytes.Equal(varint.Put(v), b[:end]) {
			t.Errorf("%v is read as %d, whose encoding is %v", b, v, varint.Put(v))
		}
		n, end, code := varint.GetInt(b, 0)
		if code == api.OK && !bytes.Equal(varint.PutInt(n), b[:end]) {
			t.Errorf("%v is read as %d, whose encoding is %v", b, n, varint.PutInt(n))
		}
		s, end, code := varint.GetText(b, 0)
		if code == api.OK && !bytes.Equal(varint.PutText(s), b[:end]) {
			t.Errorf("%v is read as %q, whose encoding is %v", b, s, varint.PutText(s))
		}
	}
	for head := range 9 {
		for _, fill := range []byte{128, 255} {
			b := bytes.Repeat([]byte{fill}, head)
			for _, x := range alphabet {
				for _, y := range alphabet {
					check(append(bytes.Clone(b), x, y))
				}
			}
		}
	}
	for x := range 256 {
		for y := range 256 {
			check([]byte{byte(x), byte(y)})
		}
	}
}

func TestP1_5Lengths(t *testing.T) {
	l := edges()
	for _, a := range l {
		for _, b := range l {
			if a < b && len(varint.Put(a)) > len(varint.Put(b)) {
				t.Errorf("%d has %d bytes, %d has %d", a, len(varint.Put(a)), b, len(varint.Put(b)))
			}
		}
	}
	for bits := range 64 {
		v := uint64(1) << bits
		if n := len(varint.Put(v)); n != bits/7+1 {
			t.Errorf("Put(%d) has %d bytes, want %d", v, n, bits/7+1)
		}
	}
}

func TestP1NoPanic(t *testing.T) {
	places := []int{math.MinInt, -1, 0, 1, 9, 10, 11, math.MaxInt}
	for _, b := range [][]byte{nil, {}, {0}, {255}, nine(255), nine(255, 255), nine(255, 1), nine(255, 1, 0)} {
		for _, at := range places {
			v, end, code := varint.Get(b, at)
			if code != api.OK && (v != 0 || end != 0) {
				t.Errorf("Get(%v, %d) = %d %d beside %v", b, at, v, end, code)
			}
			if n, end, code2 := varint.GetInt(b, at); code2 != code || code != api.OK && (n != 0 || end != 0) {
				t.Errorf("GetInt(%v, %d) = %d %d %v, Get's error is %v", b, at, n, end, code2, code)
			}
			if s, end, code2 := varint.GetText(b, at); code != api.OK && code2 != code || code2 != api.OK && (s != "" || end != 0) {
				t.Errorf("GetText(%v, %d) = %q %d %v, Get's error is %v", b, at, s, end, code2, code)
			}
		}
	}
}
