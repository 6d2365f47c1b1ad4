package token_test

import (
	"strconv"
	"strings"
	"testing"

	"hindsight/api"
	"hindsight/token"
)

func TestP19_1Known(t *testing.T) {
	for _, c := range []struct {
		s    string
		want tokens
	}{
		{"", tokens{end(0)}},
		{" \t\n\r ", tokens{end(5)}},
		{"a<=1", tokens{word(0, "a"), sign(1, "<="), number(3, 1), end(4)}},
		{" Ab<=12 'it''s' x'0A'", tokens{word(1, "ab"), sign(3, "<="), number(5, 12), quoted(8, "it's"), hexBytes(16, "\n"), end(21)}},
		{"select * from t;", tokens{word(0, "select"), sign(7, "*"), word(9, "from"), word(14, "t"), sign(15, ";"), end(16)}},
		{"a.b", tokens{word(0, "a"), sign(1, "."), word(2, "b"), end(3)}},
		{"f(*)", tokens{word(0, "f"), sign(1, "("), sign(2, "*"), sign(3, ")"), end(4)}},
		{"1.5", tokens{number(0, 1), sign(1, "."), number(2, 5), end(3)}},
		{".5", tokens{sign(0, "."), number(1, 5), end(2)}},
		{"-1", tokens{sign(0, "-"), number(1, 1), end(2)}},
		{"--1", tokens{sign(0, "-"), sign(1, "-"), number(2, 1), end(3)}},
		{"1-1", tokens{number(0, 1), sign(1, "-"), number(2, 1), end(3)}},
		{"/**/", tokens{sign(0, "/"), sign(1, "*"), sign(2, "*"), sign(3, "/"), end(4)}},
		{"1'a'", tokens{number(0, 1), quoted(1, "a"), end(4)}},
		{"a'b'c", tokens{word(0, "a"), quoted(1, "b"), word(4, "c"), end(5)}},
		{"'a'1'b'", tokens{quoted(0, "a"), number(3, 1), quoted(4, "b"), end(7)}},
		{"1 a", tokens{number(0, 1), word(2, "a"), end(3)}},
		{"1\ra\n2\tb", tokens{number(0, 1), word(2, "a"), number(4, 2), word(6, "b"), end(7)}},
		{"a1_2B", tokens{word(0, "a1_2b"), end(5)}},
		{"_", tokens{word(0, "_"), end(1)}},
		{"__9", tokens{word(0, "__9"), end(3)}},
	} {
		if l := read(t, c.s); !equal(l, c.want) {
			t.Errorf("Read(%q) = %v, want %v", c.s, l, c.want)
		}
	}
}

func TestP19_1Long(t *testing.T) {
	for _, s := range []string{strings.Repeat(" ", 4096), strings.Repeat("\u00e4", 2047) + "''"} {
		if len(s) != 4096 {
			t.Fatalf("%d bytes", len(s))
		}
		refuses(t, s+" ", 0, api.ErrLong)
	}
	if l := read(t, strings.Repeat(" ", 4096)); !equal(l, tokens{end(4096)}) {
		t.Errorf("blanks: %v", l)
	}
	if l := read(t, "'"+strings.Repeat("\u00e4", 2047)+"'"); !equal(l, tokens{quoted(0, strings.Repeat("\u00e4", 2047)), end(4096)}) {
		t.Errorf("a quoted string: %d tokens", len(l))
	}
	if l := read(t, strings.Repeat(" ", 4095)+"a"); !equal(l, tokens{word(4095, "a"), end(4096)}) {
		t.Errorf("a word: %v", l)
	}
	if l := read(t, strings.Repeat("<", 4096)); len(l) != 4097 || l[4095] != sign(4095, "<") || l[4096] != end(4096) {
		t.Errorf("signs: %d tokens", len(l))
	}
	// Ahead of the other errors.
	for _, s := range []string{
		strings.Repeat("a", 4097), strings.Repeat("1", 4097), strings.Repeat("\xff", 4097), strings.Repeat("'", 4097), "!" + strings.Repeat(" ", 4096),
		strings.Repeat(" ", 4096) + "\xff", strings.Repeat(" ", 4096) + "!", strings.Repeat("a", 1<<20),
		// Bytes are counted, and not code points.
		"'" + strings.Repeat("\u00e4", 2047) + "a'",
	} {
		refuses(t, s, 0, api.ErrLong)
	}
}

func TestP19_1Form(t *testing.T) {
	for _, s := range []string{
		"\xff", "a \xff", "'\xff'", "a b '\x80'", "'\xc3'", "\xc3", "x'\xff'", "'\xed\xa0\x80'", "'\xc0\x80'", "'\xf4\x90\x80\x80'", "'\xe2\x82'", "'\xef\xbf'",
		// Ahead of the errors of tokens, even of those in front of it.
		"! \xff", "'\xff", "1a \xff", "99999999999999999999 \xff", strings.Repeat("a", 21) + "\xff", strings.Repeat(" ", 4095) + "\xff", strings.Repeat("\xff", 4096),
	} {
		refuses(t, s, 0, api.ErrForm)
	}
	// A code point that stands for wrong bytes elsewhere is right here.
	if l := read(t, "'\ufffd\U0010ffff\ud7ff\ue000\x00'"); !equal(l, tokens{quoted(0, "\ufffd\U0010ffff\ud7ff\ue000\x00"), end(16)}) {
		t.Errorf("Read: %v", l)
	}
}

func TestP19_1Words(t *testing.T) {
	for _, s := range []string{
		strings.Repeat("a", 19), strings.Repeat("Z", 20), "_" + strings.Repeat("9", 19), "system_time", "SELECT", "x", "X", "x1", "xx", "abcdefghijklmnopqrst", "ABCDEFGHIJKLMNOPQRST", "uvwxyzUVWXYZ_0123456",
	} {
		if l := read(t, " "+s+"="); !equal(l, tokens{word(1, strings.ToLower(s)), sign(1+len(s), "="), end(2 + len(s))}) {
			t.Errorf("Read of %q: %v", s, l)
		}
	}
	for _, n := range []int{21, 22, 40, 41, 100, 4094} {
		refuses(t, "1 "+strings.Repeat("a", n), 2, api.ErrSyntax)
		refuses(t, "1 "+strings.Repeat("_", n-1)+"9", 2, api.ErrSyntax)
	}
	refuses(t, strings.Repeat("a", 20)+"1", 0, api.ErrSyntax)
	refuses(t, strings.Repeat("a", 20)+"_", 0, api.ErrSyntax)
	refuses(t, strings.Repeat("x", 21)+"''", 0, api.ErrSyntax)
	refuses(t, "a "+strings.Repeat("b", 21)+" !", 2, api.ErrSyntax)
	refuses(t, "a ! "+strings.Repeat("b", 21), 2, api.ErrSyntax)
	// A quote, a sign or a letter of another alphabet ends a name that is just not too long.
	if l := read(t, strings.Repeat("a", 20)+"'1'"); !equal(l, tokens{word(0, strings.Repeat("a", 20)), quoted(20, "1"), end(23)}) {
		t.Errorf("Read: %v", l)
	}
	refuses(t, strings.Repeat("a", 20)+"\u00e4", 20, api.ErrSyntax)
}

func TestP19_1Numbers(t *testing.T) {
	const most = 1<<63 - 1
	zeros := strings.Repeat("0", 1000)
	for _, c := range []struct {
		s string
		n int64
	}{
		{"0", 0}, {"7", 7}, {"10", 10}, {"00", 0}, {"007", 7}, {"1234567890", 1234567890}, {"9223372036854775806", most - 1}, {"9223372036854775807", most},
		{"0009223372036854775807", most}, {zeros, 0}, {zeros + "9223372036854775807", most},
	} {
		if l := read(t, "\n"+c.s+"*"); !equal(l, tokens{number(1, c.n), sign(1+len(c.s), "*"), end(2 + len(c.s))}) {
			t.Errorf("Read of %.40q: %v", c.s, l)
		}
	}
	for _, s := range []string{"9223372036854775808", "9223372036854775810", "10000000000000000000", "18446744073709551616", "18446744073709551617", "09223372036854775808", zeros + "9223372036854775808", strings.Repeat("9", 4000)} {
		refuses(t, s, 0, api.ErrOver)
		refuses(t, "a = -"+s+" !", 5, api.ErrOver)
		refuses(t, s+"'", 0, api.ErrOver)
		refuses(t, s+"\u00e4", 0, api.ErrOver)
		// The error that the chapter names first.
		refuses(t, "a "+s+"b", 2, api.ErrSyntax)
		refuses(t, "a "+s+"_", 2, api.ErrSyntax)
	}
}

func TestP19_1Glued(t *testing.T) {
	for _, c := range []string{"a", "z", "A", "Z", "_", "x", "X", "x''", "X'00'", "e3", "_1", "x1", "L"} {
		refuses(t, "1"+c, 0, api.ErrSyntax)
		refuses(t, "  0"+c, 2, api.ErrSyntax)
		refuses(t, "a+12345"+c+" 9", 2, api.ErrSyntax)
		refuses(t, "'a'12"+c, 3, api.ErrSyntax)
	}
	// What is no letter and no digit may follow, or is an error of its own.
	for _, s := range signs() {
		if l := read(t, "12"+s); !equal(l, tokens{number(0, 12), sign(2, s), end(2 + len(s))}) {
			t.Errorf("Read of 12%s: %v", s, l)
		}
	}
	for _, s := range []string{"\u00e4", "!", "\x00", "\uff11", "\u0661", "\"", "@", "[", "`", "{"} {
		refuses(t, "12"+s, 2, api.ErrSyntax)
	}
}

func TestP19_1Quoted(t *testing.T) {
	for _, c := range [][2]string{
		{"''", ""}, {"'a'", "a"}, {"''''", "'"}, {"''''''", "''"}, {"'it''s'", "it's"}, {"'''a'", "'a"}, {"'a'''", "a'"}, {"'a''''b'", "a''b"},
		{"' '", " "}, {"'\n\t\r\x00'", "\n\t\r\x00"}, {"'A'", "A"}, {"'\"\\\\n'", "\"\\\\n"}, {"'x''00'''", "x'00'"}, {"'\u00e4\u2019\u20ac\U0001f600'", "\u00e4\u2019\u20ac\U0001f600"},
		{"'--'", "--"}, {"'" + strings.Repeat("''", 2000) + "'", strings.Repeat("'", 2000)}, {"'" + strings.Repeat("a", 4000) + "'", strings.Repeat("a", 4000)},
	} {
		if l := read(t, "("+c[0]+")"); !equal(l, tokens{sign(0, "("), quoted(1, c[1]), sign(1+len(c[0]), ")"), end(2 + len(c[0]))}) {
			t.Errorf("Read of %.40q: %v", c[0], l)
		}
	}
	if l := read(t, "'a' 'b'"); !equal(l, tokens{quoted(0, "a"), quoted(4, "b"), end(7)}) {
		t.Errorf("two strings: %v", l)
	}
	for _, s := range []string{"'", "'a", "'a ", "'''", "'a''", "''''' ", "'a''b", "'it''s", "'\u00e4", "'\n", "' ''", "'\"", "'a\u2019", "'" + strings.Repeat("''", 1000)} {
		refuses(t, s, 0, api.ErrSyntax)
		refuses(t, "a  "+s, 3, api.ErrSyntax)
		refuses(t, "''  "+s, 4, api.ErrSyntax)
	}
	refuses(t, "'a'b'", 4, api.ErrSyntax)
	refuses(t, "'a' '", 4, api.ErrSyntax)
	refuses(t, "\"a\"", 0, api.ErrSyntax)
	refuses(t, "\u2019a\u2019", 0, api.ErrSyntax)
}

func TestP19_1Bytes(t *testing.T) {
	for _, c := range [][2]string{
		{"x''", ""}, {"X''", ""}, {"x'00'", "\x00"}, {"x'0A'", "\n"}, {"X'0a'", "\n"}, {"x'ff'", "\xff"}, {"x'FF'", "\xff"}, {"x'fF'", "\xff"}, {"x'7f80'", "\x7f\x80"},
		{"x'0123456789abcdefABCDEF'", "\x01\x23\x45\x67\x89\xab\xcd\xef\xab\xcd\xef"}, {"x'c3a4'", "\u00e4"}, {"x'27'", "'"}, {"x'" + strings.Repeat("5a", 2000) + "'", strings.Repeat("Z", 2000)},
	} {
		if l := read(t, "= "+c[0]+"1"); !equal(l, tokens{sign(0, "="), hexBytes(2, c[1]), number(2+len(c[0]), 1), end(3 + len(c[0]))}) {
			t.Errorf("Read of %.40q: %v", c[0], l)
		}
	}
	for i := range 256 {
		digits := strconv.FormatInt(int64(i+256), 16)[1:]
		for _, s := range []string{digits, strings.ToUpper(digits)} {
			if l := read(t, "x'"+s+"'"); !equal(l, tokens{hexBytes(0, string([]byte{byte(i)})), end(5)}) {
				t.Errorf("Read of x'%s': %v", s, l)
			}
		}
	}
	for _, s := range []string{
		"x'0'", "x'000'", "x'0g'", "x'g0'", "x'G0'", "x'0 '", "x' 0'", "x'00 '", "x' 00'", "x'0\n'", "x'+1'", "x'-1'", "x'0x'", "x'0_'", "x'_1'", "x'0/'", "x'0:'", "x'0@'", "x'0`'", "x'00''00'", "x''''", "x'0'''", "x'''0'",
		"x'\u00e4'", "x'a\u00e4'", "x'\uff11'", "x'\uff110'", "x'\x00\x00'", "x'" + strings.Repeat("0", 4001) + "'",
		"x'", "X'", "x'00", "x'0", "x'00''", "x'zz", "x'''", "x'\u00e4",
	} {
		refuses(t, s, 0, api.ErrSyntax)
		refuses(t, "a = "+s, 4, api.ErrSyntax)
		refuses(t, "a='b'"+s, 5, api.ErrSyntax)
		refuses(t, "X"+s[1:], 0, api.ErrSyntax)
	}
	// With a blank, or behind a name, the quoted string is a token of its own, whatever it holds.
	for _, c := range []struct {
		s    string
		want tokens
	}{
		{"x '00'", tokens{word(0, "x"), quoted(2, "00"), end(6)}},
		{"X\n'0g'", tokens{word(0, "x"), quoted(2, "0g"), end(6)}},
		{"xx'0'", tokens{word(0, "xx"), quoted(2, "0"), end(5)}},
		{"ax''", tokens{word(0, "ax"), quoted(2, ""), end(4)}},
		{"_X'g'", tokens{word(0, "_x"), quoted(2, "g"), end(5)}},
		{"x0'00'", tokens{word(0, "x0"), quoted(2, "00"), end(6)}},
		{"b'00'", tokens{word(0, "b"), quoted(1, "00"), end(5)}},
		{"x", tokens{word(0, "x"), end(1)}},
		{"x.x=X", tokens{word(0, "x"), sign(1, "."), word(2, "x"), sign(3, "="), word(4, "x"), end(5)}},
		{"''x'00'", tokens{quoted(0, ""), hexBytes(2, "\x00"), end(7)}},
		{"x'00'x'01'", tokens{hexBytes(0, "\x00"), hexBytes(5, "\x01"), end(10)}},
	} {
		if l := read(t, c.s); !equal(l, c.want) {
			t.Errorf("Read(%q) = %v, want %v", c.s, l, c.want)
		}
	}
	refuses(t, "x '0", 2, api.ErrSyntax)
}

func TestP19_1Signs(t *testing.T) {
	for _, s := range signs() {
		if l := read(t, s); !equal(l, tokens{sign(0, s), end(len(s))}) {
			t.Errorf("Read(%q) = %v", s, l)
		}
		if l := read(t, "a"+s+" 'b'"); !equal(l, tokens{word(0, "a"), sign(1, s), quoted(2+len(s), "b"), end(5 + len(s))}) {
			t.Errorf("Read of %q: %v", s, l)
		}
	}
	for _, c := range []struct {
		s    string
		want []string
	}{
		{"<=>", []string{"<=", ">"}}, {"<>=", []string{"<>", "="}}, {">=<", []string{">=", "<"}}, {"=<", []string{"=", "<"}}, {"=>", []string{"=", ">"}},
		{"><", []string{">", "<"}}, {"<<=", []string{"<", "<="}}, {">>=", []string{">", ">="}}, {"<<>>", []string{"<", "<>", ">"}}, {"===", []string{"=", "=", "="}},
		{"||||", []string{"||", "||"}}, {"<==", []string{"<=", "="}}, {">==", []string{">=", "="}}, {"<> >=", []string{"<>", ">="}}, {"< =", []string{"<", "="}},
		{"> =", []string{">", "="}}, {"< >", []string{"<", ">"}}, {"**", []string{"*", "*"}}, {"//", []string{"/", "/"}}, {"(),;.*+-/%=", strings.Split("(),;.*+-/%=", "")},
	} {
		l := read(t, c.s)
		var got []string
		for _, x := range l[:len(l)-1] {
			if x.Kind != token.Sign || x.Int != 0 || !strings.HasPrefix(c.s[x.At:], x.Text) {
				t.Errorf("Read(%q) has %v", c.s, x)
			}
			got = append(got, x.Text)
		}
		if strings.Join(got, " ") != strings.Join(c.want, " ") {
			t.Errorf("Read(%q) = %v, want %v", c.s, got, c.want)
		}
	}
	refuses(t, "|", 0, api.ErrSyntax)
	refuses(t, "a|", 1, api.ErrSyntax)
	refuses(t, "|||", 2, api.ErrSyntax)
	refuses(t, "| |", 0, api.ErrSyntax)
	refuses(t, "a !=b", 2, api.ErrSyntax)
}

// TestP19_1First has each code point of one byte, and some others, where a token can begin.
func TestP19_1First(t *testing.T) {
	x := newLexer()
	check := func(s string) {
		t.Helper()
		want, fault := x.read(s)
		if l, f := token.Read(s); f != fault || !equal(l, want) {
			t.Errorf("Read(%q) = %v %v, want %v %v", s, l, f, want, fault)
		}
	}
	for c := range 128 {
		s := string(rune(c))
		check(s)
		check(s + s)
		for d := range 128 {
			check("a" + s + string(rune(d)))
			check("1" + s + string(rune(d)))
		}
	}
	for _, s := range []string{"\u0080", "\u0085", "\u00a0", "\u00aa", "\u00e4", "\u00c4", "\u00d7", "\u00b2", "\u0130", "\u0131", "\u017f", "\u212a", "\u2003", "\u2028", "\u2019", "\u02bc", "\uff07", "\uff11", "\u0661", "\u2264", "\ufeff", "\ufffd", "\U0001d7ce", "\U0010ffff", "\ue000", "\ud7ff"} {
		refuses(t, s, 0, api.ErrSyntax)
		refuses(t, "  "+s, 2, api.ErrSyntax)
		refuses(t, "a"+s, 1, api.ErrSyntax)
		refuses(t, "'"+s+"'"+s, 2+len(s), api.ErrSyntax)
		check(s + "'")
	}
}

// TestP19_1ByDefinition holds Read against the definition for all short texts, and for longer ones by chance.
func TestP19_1ByDefinition(t *testing.T) {
	x := newLexer()
	found, wrong := 0, map[api.Errno]int{}
	check := func(s string) {
		want, fault := x.read(s)
		if l, f := token.Read(s); f != fault || !equal(l, want) || f.Code != api.OK && len(l) != 0 {
			t.Fatalf("Read(%q) = %v %v, want %v %v", s, l, f, want, fault)
		}
		if fault.Code == api.OK {
			found++
		}
		wrong[fault.Code]++
	}
	visit([]string{"a", "x", "X", "0", "'", " ", "<", "=", ">", "|", "-", "\u00e4", "g"}, 4, "", check)
	visit([]string{"x", "'", "0", "F", "g"}, 7, "", check)
	visit([]string{"'", "a", " "}, 9, "", check)
	visit([]string{"<", ">", "=", "|", "a"}, 6, "", check)
	next := chance(1)
	parts := append(signs(), " ", "\n", "\t", "a", "Select", "x", "X", "_", "0", "19", "9223372036854775807", "9223372036854775808", "'", "''", "'a'", "x'0a'", "x''", "abcdefghij", "0123456789", "\u00e4", "!", "g", "x'", "f")
	for range 100000 {
		s := ""
		for range 1 + next.below(8) {
			s += next.of(parts)
		}
		check(s)
	}
	if found < 50000 || wrong[api.ErrSyntax] < 50000 || wrong[api.ErrOver] < 1000 {
		t.Errorf("%d texts have tokens, errors: %v", found, wrong)
	}
}

// TestP1Read has any bytes; Read returns, with tokens or with one error.
func TestP1Read(t *testing.T) {
	next := chance(2)
	for range 100000 {
		b := make([]byte, next.below(40))
		for i := range b {
			b[i] = byte(next.below(256) >> next.below(3))
		}
		l, f := token.Read(string(b))
		if (f.Code == api.OK) != (len(l) > 0) || f.At < 0 || f.At > len(b) || f.Code == api.OK && f.At != 0 {
			t.Fatalf("Read(%q) = %v %v", b, l, f)
		}
	}
}

// TestP1ReadMemory holds that two results share no memory.
func TestP1ReadMemory(t *testing.T) {
	const s = "a <= 'b' x'00' 12"
	l := read(t, s)
	l[0], l[1] = token.Token{}, token.Token{}
	if m := read(t, s); m[0] != word(0, "a") || m[1] != sign(2, "<=") {
		t.Errorf("Read: %v", m)
	}
}
