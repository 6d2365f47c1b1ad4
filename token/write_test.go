package token_test

import (
	"math"
	"slices"
	"strings"
	"testing"

	"hindsight/api"
	"hindsight/token"
)

func TestP19_2Write(t *testing.T) {
	for _, c := range []struct {
		l    tokens
		want string
	}{
		{nil, ""},
		{tokens{}, ""},
		{tokens{end(7)}, ""},
		{tokens{word(0, "a")}, "a"},
		{tokens{word(5, "a"), word(2, "b")}, "a b"},
		{tokens{word(0, "a"), sign(0, "<="), number(0, 1), end(0)}, "a <= 1"},
		{tokens{word(0, "select"), sign(0, "*"), word(0, "from"), word(0, "t"), sign(0, ";")}, "select * from t ;"},
		{tokens{word(0, "f"), sign(0, "("), number(0, 1), sign(0, ","), number(0, 2), sign(0, ")")}, "f ( 1 , 2 )"},
		{tokens{word(0, "a"), sign(0, "."), word(0, "b")}, "a . b"},
		{tokens{number(0, 0)}, "0"},
		{tokens{number(0, math.MaxInt64), number(0, 10)}, "9223372036854775807 10"},
		{tokens{quoted(0, "")}, "''"},
		{tokens{quoted(0, "it's"), quoted(0, "'"), quoted(0, "a b")}, "'it''s' '''' 'a b'"},
		{tokens{quoted(0, "\u00e4\x00\n")}, "'\u00e4\x00\n'"},
		{tokens{hexBytes(0, "")}, "x''"},
		{tokens{hexBytes(0, "\n\xff'"), hexBytes(0, "\x00\x7f\x80\xab\xcd\xef\x01\x23\x45\x67\x89")}, "x'0aff27' x'007f80abcdef0123456789'"},
		{tokens{word(0, "x"), quoted(0, "00")}, "x '00'"},
		{tokens{sign(0, "<"), sign(0, "=")}, "< ="},
		// Texts as they are, also those that no text has.
		{tokens{word(0, "Ab C"), sign(0, "!="), word(0, "'")}, "Ab C != '"},
		{tokens{{Kind: token.Word, Text: "a", Int: 7}, {Kind: token.Number, Text: "b", Int: 7}}, "a 7"},
		{tokens{number(0, -1), number(0, math.MinInt64)}, "-1 -9223372036854775808"},
		// Tokens of other kinds are left out, with their blanks.
		{tokens{end(0), word(0, "a"), end(0), {Kind: 6, Text: "z"}, {Kind: -1, Text: "z", Int: 1}, word(0, "b"), {Kind: math.MaxInt}, {Kind: math.MinInt}, {Kind: 256 + 1, Text: "z"}}, "a b"},
		{tokens{{Kind: 99, Text: "z", Int: 5}}, ""},
	} {
		if s := token.Write(c.l); s != c.want {
			t.Errorf("Write(%v) = %q, want %q", c.l, s, c.want)
		}
	}
}

// TestP19_2WriteAll has each byte in a quoted string and in bytes, and a long list.
func TestP19_2WriteAll(t *testing.T) {
	const values = "0123456789abcdef"
	for i := range 256 {
		s := string([]byte{byte(i), 'a'})
		if got, want := token.Write(tokens{hexBytes(0, s)}), "x'"+values[i/16:i/16+1]+values[i%16:i%16+1]+"61'"; got != want {
			t.Errorf("Write of the byte %d = %q, want %q", i, got, want)
		}
		want := "'" + s + "'"
		if i == '\'' {
			want = "'''a'"
		}
		if got := token.Write(tokens{quoted(0, s)}); got != want {
			t.Errorf("Write of %q = %q, want %q", s, got, want)
		}
	}
	l := slices.Repeat(tokens{word(0, "a")}, 10000)
	if got := token.Write(l); got != strings.TrimSuffix(strings.Repeat("a ", 10000), " ") {
		t.Errorf("Write of a long list has %d bytes", len(got))
	}
}

func TestP19_2Same(t *testing.T) {
	base := tokens{word(0, "a"), number(1, 5), quoted(2, "a"), hexBytes(3, "a"), sign(4, "("), end(5), {Kind: 9, At: 6, Text: "q", Int: 3}}
	same := func(a, b tokens, want bool) {
		t.Helper()
		if token.Same(a, b) != want || token.Same(b, a) != want {
			t.Errorf("Same(%v, %v) = %v", a, b, !want)
		}
	}
	same(nil, nil, true)
	same(nil, tokens{}, true)
	same(nil, tokens{end(0)}, false)
	same(base, base, true)
	same(base, slices.Clone(base), true)
	same(base, base[:len(base)-1], false)
	same(base, base[1:], false)
	same(base, append(slices.Clone(base), end(9)), false)
	for i := range base {
		for _, at := range []int{0, 77, -1, math.MinInt, math.MaxInt} {
			l := slices.Clone(base)
			l[i].At = at
			same(base, l, true)
		}
		for _, change := range []func(x *token.Token){
			func(x *token.Token) { x.Kind++ },
			func(x *token.Token) { x.Kind = -x.Kind - 1 },
			func(x *token.Token) { x.Text += "x" },
			func(x *token.Token) { x.Text = strings.ToUpper(x.Text) + "'" },
			func(x *token.Token) { x.Int++ },
			func(x *token.Token) { x.Int = math.MinInt64 },
		} {
			l := slices.Clone(base)
			change(&l[i])
			same(base, l, false)
		}
	}
	same(tokens{word(0, "a"), word(1, "b")}, tokens{word(0, "b"), word(1, "a")}, false)
	same(tokens{word(0, "a")}, tokens{word(0, "A")}, false)
}

// TestP19_2Kept holds that neither Write nor Same changes its arguments.
func TestP19_2Kept(t *testing.T) {
	l := read(t, "a <= 'it''s' x'00' 12")
	kept := slices.Clone(l)
	m := slices.Clone(l)
	m[1].At = 77
	token.Write(l)
	token.Same(l, m)
	if !equal(l, kept) || m[1].At != 77 {
		t.Errorf("%v became %v", kept, l)
	}
}

// held holds, of a text that has tokens, that their written form has the same ones, and that their places increase and lie in the text.
func held(t *testing.T, s string) {
	t.Helper()
	l, f := token.Read(s)
	if f.Code != api.OK {
		return
	}
	if w := token.Write(l); len(w) <= 4096 {
		m, f := token.Read(w)
		if f != (api.Fault{}) || !token.Same(l, m) || token.Write(m) != w {
			t.Fatalf("%q is written as %q, which has %v %v", s, w, m, f)
		}
	}
	for i, x := range l {
		if x.At < 0 || x.At > len(s) || i > 0 && x.At <= l[i-1].At {
			t.Fatalf("Read(%q) = %v", s, l)
		}
		if i == len(l)-1 {
			if x != end(len(s)) {
				t.Fatalf("Read(%q) ends with %v", s, x)
			}
			continue
		}
		// What a token's bytes are, between its place and the next one's, is that token.
		part := strings.TrimRight(s[x.At:l[i+1].At], " \t\n\r")
		if m := read(t, part); x.Kind < 1 || x.Kind > 5 || len(m) != 2 || !token.Same(m[:1], l[i:i+1]) || m[0].At != 0 {
			t.Fatalf("%q of %q is %v, and was %v", part, s, m, x)
		}
	}
}

func TestP19_3And4Short(t *testing.T) {
	check := func(s string) { held(t, s) }
	visit([]string{"a", "x", "0", "'", " ", "<", "=", ">", "||", "-", "\u00e4"}, 5, "", check)
	visit([]string{"x", "'", "00", "Fa"}, 7, "", check)
	visit([]string{"'", "a", "\n"}, 9, "", check)
}

func TestP19_3And4Long(t *testing.T) {
	next := chance(3)
	parts := []string{"a ", "Select\t", "x ", "_1\n", "0 ", "19 ", "9223372036854775807 ", "007 ", "''", "'it''s' ", "'\u00e4\n'", " x'0aFF'", " X''", " x''", "abcdefghijklmnopqrst ", "  ", "\r\n"}
	parts = append(parts, signs()...)
	for range 3000 {
		s := ""
		for range next.below(200) {
			s += next.of(parts)
		}
		held(t, s)
	}
	for _, s := range []string{strings.Repeat("<", 4096), strings.Repeat("a ", 2048), strings.Repeat("''", 2048), strings.Repeat("'' ", 1365), "'" + strings.Repeat("'", 4094) + "'", strings.Repeat("x''", 1365), strings.Repeat(" ", 4095) + "1"} {
		held(t, s)
	}
}

// TestP19_3Made has tokens that no text was read for.
func TestP19_3Made(t *testing.T) {
	next := chance(4)
	for range 20000 {
		var l tokens
		for range next.below(12) {
			b := make([]byte, next.below(9))
			for i := range b {
				b[i] = byte(next.below(128) >> next.below(2))
			}
			switch next.below(5) {
			case 0:
				l = append(l, word(0, next.of([]string{"a", "x", "select", "_", "x0", "abcdefghijklmnopqrst"})))
			case 1:
				l = append(l, number(0, int64(next.below(1<<30))<<next.below(34)))
			case 2:
				l = append(l, quoted(0, string(b)))
			case 3:
				for i := range b {
					b[i] = byte(next.below(256))
				}
				l = append(l, hexBytes(0, string(b)))
			case 4:
				l = append(l, sign(0, next.of(signs())))
			}
		}
		w := token.Write(l)
		if m := read(t, w); !token.Same(append(l, end(0)), m) {
			t.Fatalf("%v is written as %q, which has %v", l, w, m)
		}
	}
}
