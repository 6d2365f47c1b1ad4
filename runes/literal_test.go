package runes_test

import (
	"math"
	"strings"
	"testing"

	"hindsight/api"
	"hindsight/runes"
)

const (
	smalls   = "abcdefghijklmnopqrstuvwxyz"
	capitals = "ABCDEFGHIJKLMNOPQRSTUVWXYZ"
	digits   = "0123456789"
)

// folded is s by the definition of the canonical form.
func folded(s string) string {
	var b []byte
	for _, c := range []byte(s) {
		if i := strings.IndexByte(capitals, c); i >= 0 {
			c = smalls[i]
		}
		b = append(b, c)
	}
	return string(b)
}

func TestP5_2Fold(t *testing.T) {
	every := string(all())
	for _, c := range [][2]string{
		{"", ""},
		{"a", "a"},
		{capitals, smalls},
		{smalls, smalls},
		{"@AZ[`az{", "@az[`az{"},
		{"Ab_1", "ab_1"},
		{"\u00c4\u0391\u212a\u0130X", "\u00c4\u0391\u212a\u0130x"},
		{"\xc1\xda\xffA\x80", "\xc1\xda\xffa\x80"},
		{"A\x00'B'", "a\x00'b'"},
		{every, folded(every)},
		{strings.Repeat("Qq\n", 1000), strings.Repeat("qq\n", 1000)},
	} {
		if s := runes.Fold(c[0]); s != c[1] {
			t.Errorf("Fold(%q) = %q, want %q", c[0], s, c[1])
		}
	}
}

// isName is the definition of a name.
func isName(s string) bool {
	letters := smalls + capitals + "_"
	for i, c := range []byte(s) {
		if strings.IndexByte(letters, c) < 0 && (i == 0 || strings.IndexByte(digits, c) < 0) {
			return false
		}
	}
	return len(s) > 0 && len(s) <= 20
}

func TestP5_2Name(t *testing.T) {
	for _, c := range []struct {
		s, want string
		code    api.Errno
	}{
		{"a", "a", api.OK},
		{"Z", "z", api.OK},
		{"_", "_", api.OK},
		{"__9", "__9", api.OK},
		{"Ab_1", "ab_1", api.OK},
		{"a0123456789", "a0123456789", api.OK},
		{"SELECT", "select", api.OK},
		{strings.Repeat("a", 19), strings.Repeat("a", 19), api.OK},
		{strings.Repeat("Q", 20), strings.Repeat("q", 20), api.OK},

		{strings.Repeat("a", 21), "", api.ErrLong},
		{strings.Repeat("1", 21), "", api.ErrLong},
		{strings.Repeat("\xff", 21), "", api.ErrLong},
		{strings.Repeat("\u00e4", 11), "", api.ErrLong},
		{strings.Repeat("a", 1<<20), "", api.ErrLong},

		{"", "", api.ErrForm},
		{"1", "", api.ErrForm},
		{"1a", "", api.ErrForm},
		{" a", "", api.ErrForm},
		{"a ", "", api.ErrForm},
		{"a b", "", api.ErrForm},
		{"a-b", "", api.ErrForm},
		{"'a'", "", api.ErrForm},
		{"a'", "", api.ErrForm},
		{"a\x00", "", api.ErrForm},
		{"\u00e4", "", api.ErrForm},
		{"a\u00e4", "", api.ErrForm},
		{"a\u0661", "", api.ErrForm},
		{"\u212a", "", api.ErrForm},
		{"a\xff", "", api.ErrForm},
		{"\xe1", "", api.ErrForm},
		{"a\ufffd", "", api.ErrForm},
		{strings.Repeat("\u00e4", 10), "", api.ErrForm},
		{strings.Repeat("1", 20), "", api.ErrForm},
		{strings.Repeat("a", 19) + "-", "", api.ErrForm},
	} {
		if s, code := runes.Name(c.s); s != c.want || code != c.code {
			t.Errorf("Name(%q) = %q %v, want %q %v", c.s, s, code, c.want, c.code)
		}
	}
}

func TestP5_2NameByDefinition(t *testing.T) {
	check := func(s string) {
		want, code := "", api.ErrForm
		if isName(s) {
			want, code = folded(s), api.OK
		}
		if n, c := runes.Name(s); n != want || c != code {
			t.Errorf("Name(%q) = %q %v, want %q %v", s, n, c, want, code)
		}
	}
	visit(single(all()...), 2, "", check)
	visit([]string{"a", "Z", "_", "0", "9", " ", "'", "-", "\u00e4"}, 4, "", check)
}

func TestP5_6Canonical(t *testing.T) {
	found := 0
	check := func(s string) {
		n, code := runes.Name(s)
		if code != api.OK {
			return
		}
		found++
		again, code := runes.Name(n)
		if again != n || code != api.OK || !isName(n) || runes.Fold(n) != n || runes.Fold(s) != n {
			t.Errorf("Name(%q) = %q, and of that %q %v", s, n, again, code)
		}
	}
	visit(single(all()...), 2, "", check)
	check(strings.Repeat("Xy_1", 5))
	if want := 53 + 53*63 + 1; found != want {
		t.Errorf("%d names found, want %d", found, want)
	}
}

func TestP5_3Known(t *testing.T) {
	for _, c := range [][2]string{
		{"", "''"},
		{"a", "'a'"},
		{"'", "''''"},
		{"''", "''''''"},
		{"it's", "'it''s'"},
		{"'a", "'''a'"},
		{"a'", "'a'''"},
		{"\x00\n", "'\x00\n'"},
		{"\u00e4\u20ac\u2019", "'\u00e4\u20ac\u2019'"},
		{"\xff\xc3", "'\xff\xc3'"},
		{"\"\\'", "'\"\\'''"},
		{"AbC 1", "'AbC 1'"},
	} {
		if q := runes.Quote(c[0]); q != c[1] {
			t.Errorf("Quote(%q) = %q, want %q", c[0], q, c[1])
		}
		if s, code := runes.Unquote(c[1]); s != c[0] || code != api.OK {
			t.Errorf("Unquote(%q) = %q %v, want %q", c[1], s, code, c[0])
		}
	}
}

func TestP5_3UnquoteWrong(t *testing.T) {
	for _, s := range []string{
		"", "'", "'''", "'''''", "a", "ab", "'a", "a'", "a''", "''a", "'a'b", "a'b'", "'a'b'", "'a'''b'", "'''a", "a'''", "'a''",
		" 'a'", "'a' ", "'a'\n", "\"a\"", "\u2019a\u2019", "x''x", "x'y'z", "'it's'", "''''a",
	} {
		if plain, code := runes.Unquote(s); plain != "" || code != api.ErrForm {
			t.Errorf("Unquote(%q) = %q %v", s, plain, code)
		}
	}
}

func TestP5_3ByDefinition(t *testing.T) {
	// What each quoted string of at most eight bytes is the quoted string of.
	plain := map[string]string{}
	alphabet := []string{"'", "a", "\xff"}
	visit(alphabet, 6, "", func(s string) {
		q := "'"
		for _, c := range []byte(s) {
			q += string([]byte{c})
			if c == '\'' {
				q += "'"
			}
		}
		plain[q+"'"] = s
		if got := runes.Quote(s); got != q+"'" {
			t.Errorf("Quote(%q) = %q, want %q", s, got, q+"'")
		}
	})
	visit(alphabet, 8, "", func(q string) {
		want, ok := plain[q]
		code := api.ErrForm
		if ok {
			code = api.OK
		}
		if s, c := runes.Unquote(q); s != want || c != code {
			t.Errorf("Unquote(%q) = %q %v, want %q %v", q, s, c, want, code)
		}
	})
}

func TestP5_5Quoted(t *testing.T) {
	for _, s := range []string{"", string(all()), strings.Repeat("'", 1001), strings.Repeat("it's ", 20000), "''" + string(all()) + "'"} {
		q := runes.Quote(s)
		if len(q) != len(s)+strings.Count(s, "'")+2 {
			t.Errorf("Quote of %d bytes has %d bytes", len(s), len(q))
		}
		if got, code := runes.Unquote(q); got != s || code != api.OK {
			t.Errorf("Unquote(Quote) of %d bytes = %d bytes %v", len(s), len(got), code)
		}
		if got, code := runes.Unquote(runes.Quote(q)); got != q || code != api.OK {
			t.Errorf("a string quoted twice, of %d bytes: %d bytes %v", len(s), len(got), code)
		}
	}
}

func TestP5_4Number(t *testing.T) {
	zeros := strings.Repeat("0", 1000)
	for _, c := range []struct {
		s    string
		n    int64
		code api.Errno
	}{
		{"0", 0, api.OK}, {"7", 7, api.OK}, {"10", 10, api.OK}, {"00", 0, api.OK}, {"007", 7, api.OK},
		{"1234567890", 1234567890, api.OK},
		{"4294967296", 1 << 32, api.OK},
		{"9223372036854775806", math.MaxInt64 - 1, api.OK},
		{"9223372036854775807", math.MaxInt64, api.OK},
		{"09223372036854775807", math.MaxInt64, api.OK},
		{zeros, 0, api.OK}, {zeros + "1", 1, api.OK}, {zeros + "9223372036854775807", math.MaxInt64, api.OK},

		{"9223372036854775808", 0, api.ErrOver},
		{"9223372036854775810", 0, api.ErrOver},
		{"9300000000000000000", 0, api.ErrOver},
		{"09223372036854775808", 0, api.ErrOver},
		{"10000000000000000000", 0, api.ErrOver},
		{"18446744073709551615", 0, api.ErrOver},
		{"18446744073709551616", 0, api.ErrOver},
		{"18446744073709551617", 0, api.ErrOver},
		{"36893488147419103233", 0, api.ErrOver},
		{zeros + "9223372036854775808", 0, api.ErrOver},
		{strings.Repeat("9", 10000), 0, api.ErrOver},
		{"1" + zeros, 0, api.ErrOver},

		{"", 0, api.ErrForm}, {" ", 0, api.ErrForm}, {"a", 0, api.ErrForm}, {"-", 0, api.ErrForm}, {"'1'", 0, api.ErrForm},
		{"-1", 0, api.ErrForm}, {"+1", 0, api.ErrForm}, {"-0", 0, api.ErrForm}, {" 1", 0, api.ErrForm}, {"1 ", 0, api.ErrForm},
		{"1_0", 0, api.ErrForm}, {"0x1", 0, api.ErrForm}, {"1e3", 0, api.ErrForm}, {"1.0", 0, api.ErrForm}, {"1,000", 0, api.ErrForm},
		{"1\x00", 0, api.ErrForm}, {"\n1", 0, api.ErrForm}, {"1\xff", 0, api.ErrForm}, {"\xff", 0, api.ErrForm},
		{"\uff11", 0, api.ErrForm}, {"\u0661", 0, api.ErrForm}, {"1\u00b2", 0, api.ErrForm}, {"0/", 0, api.ErrForm}, {"9:", 0, api.ErrForm},
		{"-9223372036854775808", 0, api.ErrForm},
		{"99999999999999999999x", 0, api.ErrForm},
		{"x99999999999999999999", 0, api.ErrForm},
		{"9223372036854775808 ", 0, api.ErrForm},
		{strings.Repeat("9", 10000) + "\u00e4", 0, api.ErrForm},
	} {
		if n, code := runes.Number(c.s); n != c.n || code != c.code {
			t.Errorf("Number(%.30q) = %d %v, want %d %v", c.s, n, code, c.n, c.code)
		}
	}
}

func TestP5_4NumberByDefinition(t *testing.T) {
	visit(single(all()...), 2, "", func(s string) {
		want, code := int64(0), api.OK
		if s == "" || strings.Trim(s, digits) != "" {
			code = api.ErrForm
		}
		for _, c := range []byte(s) {
			want = want*10 + int64(strings.IndexByte(digits, c))
		}
		if code != api.OK {
			want = 0
		}
		if n, c := runes.Number(s); n != want || c != code {
			t.Errorf("Number(%q) = %d %v, want %d %v", s, n, c, want, code)
		}
	})
}

func TestP5_4Digits(t *testing.T) {
	for _, c := range []struct {
		n    int64
		want string
	}{
		{0, "0"}, {1, "1"}, {-1, "-1"}, {9, "9"}, {10, "10"}, {-10, "-10"}, {100, "100"}, {1234567890, "1234567890"},
		{math.MaxInt64, "9223372036854775807"}, {math.MinInt64, "-9223372036854775808"}, {math.MinInt64 + 1, "-9223372036854775807"},
		{1 << 32, "4294967296"}, {-1 << 31, "-2147483648"},
	} {
		if s := runes.Digits(c.n); s != c.want {
			t.Errorf("Digits(%d) = %q, want %q", c.n, s, c.want)
		}
	}
}

func TestP5_5Numbers(t *testing.T) {
	check := func(n int64) {
		s := runes.Digits(n)
		if m, code := runes.Number(s); m != n || code != api.OK {
			t.Errorf("Number(Digits(%d)) = %d %v", n, m, code)
		}
		if len(s) > 1 && s[0] == '0' {
			t.Errorf("Digits(%d) = %q", n, s)
		}
		if n > 0 && runes.Digits(-n) != "-"+s {
			t.Errorf("Digits(%d) = %q", -n, runes.Digits(-n))
		}
	}
	for n := range int64(2000) {
		check(n)
		check(math.MaxInt64 - n)
	}
	for i := range 63 {
		p := int64(1) << i
		check(p - 1)
		check(p)
		check(p + 1)
	}
	for p := int64(1); p <= math.MaxInt64/10; p *= 10 {
		check(p*10 - 1)
		check(p * 10)
	}
}
