package runes_test

import (
	"math"
	"slices"
	"strings"
	"testing"

	"hindsight/api"
	"hindsight/runes"
)

const maxPoint = 1114111

// isPoint reports whether r is a code point of a valid string.
func isPoint(r rune) bool {
	return r >= 0 && r < 55296 || r > 57343 && r <= maxPoint
}

// encode is r, not negative, in size bytes, whether or not it needs as many.
func encode(r rune, size int) string {
	if size == 1 {
		return string([]byte{byte(r)})
	}
	b := make([]byte, size)
	for i := size - 1; i > 0; i-- {
		b[i] = 128 + byte(r%64)
		r /= 64
	}
	// As many leading ones as there are bytes.
	b[0] = byte(255)<<(8-size) + byte(r)
	return string(b)
}

// least is the least number of bytes for r.
func least(r rune) int {
	switch {
	case r < 128:
		return 1
	case r < 2048:
		return 2
	case r < 65536:
		return 3
	}
	return 4
}

// model is the code points of s by the definition, and whether s is valid.
func model(s string) ([]rune, bool) {
	var l []rune
	for s != "" {
		r, ok := first(s)
		if !ok {
			return nil, false
		}
		l, s = append(l, r), s[least(r):]
	}
	return l, true
}

// first is the code point that s, not empty, begins with, and whether it is one.
func first(s string) (rune, bool) {
	for size := 1; size <= min(4, len(s)); size++ {
		r := rune(s[0])
		if size > 1 {
			r %= 1 << (7 - size)
		}
		for _, c := range []byte(s[1:size]) {
			r = r*64 + rune(c%64)
		}
		if isPoint(r) && least(r) == size && encode(r, size) == s[:size] {
			return r, true
		}
	}
	return 0, false
}

// check holds Right, Split and Count against the model.
func check(t *testing.T, s string) {
	t.Helper()
	want, ok := model(s)
	code := api.ErrForm
	if ok {
		code = api.OK
	}
	if is := runes.Right(s); is != ok {
		t.Errorf("Right(%q) = %v", s, is)
	}
	if l, c := runes.Split(s); !slices.Equal(l, want) || c != code {
		t.Errorf("Split(%q) = %v %v, want %v %v", s, l, c, want, code)
	}
	if n, c := runes.Count(s); n != len(want) || c != code {
		t.Errorf("Count(%q) = %d %v, want %d %v", s, n, c, len(want), code)
	}
	if ok {
		if j, c := runes.Join(want); j != s || c != api.OK {
			t.Errorf("Join(%v) = %q %v, want %q", want, j, c, s)
		}
	}
}

// visit calls f with every string of at most n elements of alphabet.
func visit(alphabet []string, n int, s string, f func(s string)) {
	f(s)
	if n == 0 {
		return
	}
	for _, c := range alphabet {
		visit(alphabet, n-1, s+c, f)
	}
}

// single are the byte strings of one byte each.
func single(l ...byte) []string {
	var out []string
	for _, c := range l {
		out = append(out, string([]byte{c}))
	}
	return out
}

// all are all bytes.
func all() []byte {
	var l []byte
	for c := range 256 {
		l = append(l, byte(c))
	}
	return l
}

func TestP5_1Known(t *testing.T) {
	for _, c := range []struct {
		s string
		l []rune
	}{
		{"", nil},
		{"a", []rune{97}},
		{"\x00", []rune{0}},
		{"a\u00e4\u20ac\U0001f600", []rune{97, 228, 8364, 128512}},
		{"\x7f\u0080\u07ff\u0800\uffff\U00010000\U0010ffff", []rune{127, 128, 2047, 2048, 65535, 65536, 1114111}},
		{"\ud7ff\ue000", []rune{55295, 57344}},
		{"\ufffd", []rune{65533}},
		{"a\ufffdb", []rune{97, 65533, 98}},
		{"e\u0301", []rune{101, 769}},
		{"\ufeff\r\n", []rune{65279, 13, 10}},
	} {
		if !runes.Right(c.s) {
			t.Errorf("Right(%q) = false", c.s)
		}
		if l, code := runes.Split(c.s); !slices.Equal(l, c.l) || code != api.OK {
			t.Errorf("Split(%q) = %v %v, want %v", c.s, l, code, c.l)
		}
		if s, code := runes.Join(c.l); s != c.s || code != api.OK {
			t.Errorf("Join(%v) = %q %v, want %q", c.l, s, code, c.s)
		}
		if n, code := runes.Count(c.s); n != len(c.l) || code != api.OK {
			t.Errorf("Count(%q) = %d %v, want %d", c.s, n, code, len(c.l))
		}
	}
}

func TestP5_1NotValid(t *testing.T) {
	for _, s := range []string{
		"\x80", "\xbf", "\xc3", "\xe2\x82", "\xf0\x9f\x98", "\xff", "\xfe",
		"\xc0\x80", "\xc1\xbf", "\xe0\x80\x80", "\xe0\x9f\xbf", "\xf0\x80\x80\x80", "\xf0\x8f\xbf\xbf",
		"\xed\xa0\x80", "\xed\xaf\xbf", "\xed\xb0\x80", "\xed\xbf\xbf",
		"\xf4\x90\x80\x80", "\xf5\x80\x80\x80", "\xf7\xbf\xbf\xbf", "\xf8\x88\x80\x80\x80",
		"\xc3a", "\xe2\x82a", "a\xc3", "ab\xff", "\xffab", "a\xffb", "\xef\xbf", "\ufffd\xff", "\xff\ufffd",
		strings.Repeat("a", 1000) + "\xc3",
	} {
		if runes.Right(s) {
			t.Errorf("Right(%q) = true", s)
		}
		if l, code := runes.Split(s); len(l) > 0 || code != api.ErrForm {
			t.Errorf("Split(%q) = %v %v", s, l, code)
		}
		if n, code := runes.Count(s); n != 0 || code != api.ErrForm {
			t.Errorf("Count(%q) = %d %v", s, n, code)
		}
	}
}

func TestP5_1AllPoints(t *testing.T) {
	for r := range rune(maxPoint + 1000) {
		check(t, encode(r, least(r)))
		if s, code := runes.Join([]rune{r}); !isPoint(r) && (s != "" || code != api.ErrForm) {
			t.Errorf("Join of %d = %q %v", r, s, code)
		}
	}
}

func TestP5_1TooManyBytes(t *testing.T) {
	for r := range rune(65536) {
		for size := least(r) + 1; size <= 4; size++ {
			check(t, encode(r, size))
		}
	}
}

func TestP5_1ShortStrings(t *testing.T) {
	visit(single(all()...), 2, "", func(s string) { check(t, s) })
	edges := single(0, 65, 127, 128, 143, 144, 159, 160, 191, 192, 193, 194, 223, 224, 225, 237, 238, 239, 240, 241, 244, 245, 255)
	visit(edges, 4, "", func(s string) { check(t, s) })
}

func TestP5_1JoinWrong(t *testing.T) {
	for _, r := range []rune{-1, math.MinInt32, 55296, 56319, 56320, 57343, maxPoint + 1, math.MaxInt32} {
		for _, l := range [][]rune{{r}, {r, 97}, {97, r}, {97, r, 98}, {55295, 57344, r}, {r, r}} {
			if s, code := runes.Join(l); s != "" || code != api.ErrForm {
				t.Errorf("Join(%v) = %q %v", l, s, code)
			}
		}
	}
	// Two halves of a code point of another encoding are none here.
	if s, code := runes.Join([]rune{55357, 56832}); s != "" || code != api.ErrForm {
		t.Errorf("Join of halves = %q %v", s, code)
	}
}

func TestP5_2Class(t *testing.T) {
	members := []string{
		1: " \t\n\r",
		2: "abcdefghijklmnopqrstuvwxyzABCDEFGHIJKLMNOPQRSTUVWXYZ_",
		3: "0123456789",
		4: "'",
		5: "!\"#$%&()*+,-./:;<=>?@[\\]^`{|}~",
	}
	if n := len(strings.Join(members, "")); n != 127-32+3 {
		t.Fatalf("%d code points have a class", n)
	}
	for r := rune(-300); r < 70000; r++ {
		want := 0
		for class, s := range members {
			if r >= 0 && strings.ContainsRune(s, r) {
				want = class
			}
		}
		if n := runes.Class(r); n != want {
			t.Errorf("Class(%d) = %d, want %d", r, n, want)
		}
	}
	for _, r := range []rune{math.MinInt32, math.MaxInt32, maxPoint, maxPoint + 1, 256 + 'a', 65536 + '0', 1<<24 + 39, 1<<30 + ' '} {
		if n := runes.Class(r); n != 0 {
			t.Errorf("Class(%d) = %d", r, n)
		}
	}
}

func TestP5_5CodePoints(t *testing.T) {
	long := []rune{0, 39, 127, 128, 2047, 2048, 55295, 57344, 65533, 65535, 65536, maxPoint}
	for range 6 {
		long = append(long, long...)
	}
	s, code := runes.Join(long)
	if want, _ := model(s); code != api.OK || !slices.Equal(want, long) {
		t.Fatalf("Join = %v", code)
	}
	if l, code := runes.Split(s); !slices.Equal(l, long) || code != api.OK {
		t.Errorf("Split(Join) = %v", code)
	}
	if n, code := runes.Count(s); n != len(long) || code != api.OK {
		t.Errorf("Count = %d %v, want %d", n, code, len(long))
	}
}

func TestP1NewMemory(t *testing.T) {
	a, _ := runes.Split("abc")
	b, _ := runes.Split("abc")
	clear(a[:cap(a)])
	if !slices.Equal(b, []rune{97, 98, 99}) {
		t.Errorf("Split shares memory: %v", b)
	}
	l := []rune{97, -1, 98}
	s, code := runes.Join(l[:1])
	if s != "a" || code != api.OK || !slices.Equal(l, []rune{97, -1, 98}) {
		t.Errorf("Join of a cut slice = %q %v, and %v", s, code, l)
	}
	l[0] = 120
	if s != "a" {
		t.Errorf("Join shares memory: %q", s)
	}
}

func TestP1NoPanic(t *testing.T) {
	visit([]string{"'", "a", "Z", "9", "\x00", "\xc3", "\xa4", "\xff"}, 4, "", func(s string) {
		runes.Right(s)
		runes.Split(s)
		runes.Count(s)
		runes.Fold(s)
		runes.Name(s)
		runes.Quote(s)
		runes.Unquote(s)
		runes.Number(s)
	})
	if s, code := runes.Join(nil); s != "" || code != api.OK {
		t.Errorf("Join of nothing = %q %v", s, code)
	}
}
