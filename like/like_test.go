package like_test

import (
	"strings"
	"testing"
	"unicode/utf8"

	"hindsight/api"
	"hindsight/like"
)

// compile is the pattern of a text that has one.
func compile(t *testing.T, pattern string) *like.Pattern {
	t.Helper()
	p, code := like.Compile(pattern)
	if p == nil || code != api.OK {
		t.Fatalf("Compile(%.40q) = %v %v", pattern, p, code)
	}
	return p
}

// check holds both functions against the result that they must have.
func check(t *testing.T, pattern, s string, want bool) {
	t.Helper()
	if is, code := compile(t, pattern).Match(s); is != want || code != api.OK {
		t.Errorf("Compile(%.40q).Match(%.40q) = %v %v, want %v", pattern, s, is, code, want)
	}
	if is, code := like.Match(pattern, s); is != want || code != api.OK {
		t.Errorf("Match(%.40q, %.40q) = %v %v, want %v", pattern, s, is, code, want)
	}
}

// model is the definition: what a pattern's first code point matches, and then the others.
func model(pattern, s []rune) bool {
	if len(pattern) == 0 {
		return len(s) == 0
	}
	switch pattern[0] {
	case '%':
		for n := range len(s) + 1 {
			if model(pattern[1:], s[n:]) {
				return true
			}
		}
		return false
	case '_':
		return len(s) > 0 && model(pattern[1:], s[1:])
	}
	return len(s) > 0 && s[0] == pattern[0] && model(pattern[1:], s[1:])
}

// words are the strings of at most n elements of alphabet.
func words(alphabet []string, n int) []string {
	l := []string{""}
	for from := 0; n > 0; n-- {
		end := len(l)
		for _, s := range l[from:end] {
			for _, c := range alphabet {
				l = append(l, s+c)
			}
		}
		from = end
	}
	return l
}

func TestP6_1Known(t *testing.T) {
	for _, c := range []struct {
		pattern, s string
		want       bool
	}{
		{"", "", true}, {"", "a", false}, {"a", "", false}, {"a", "a", true}, {"a", "b", false}, {"a", "aa", false}, {"aa", "a", false},
		{"a%c", "abc", true}, {"a%c", "ac", true}, {"a%c", "abcd", false}, {"a%c", "abcbc", true}, {"a%c", "abb", false},
		{"a_c", "ac", false}, {"a_c", "abc", true}, {"a_c", "abbc", false}, {"a_c", "a_c", true}, {"a_c", "a%c", true},
		{"%", "", true}, {"%", "abc", true}, {"%%", "", true}, {"%%%", "a", true}, {"_", "", false}, {"_", "a", true}, {"_", "ab", false},
		{"_%", "", false}, {"_%", "a", true}, {"%_", "", false}, {"%_", "abc", true}, {"%_%_%", "a", false}, {"%_%_%", "ab", true},
		{"%b", "ab", true}, {"%b", "abbab", true}, {"%b", "ba", false}, {"b%", "bca", true}, {"b%", "ab", false}, {"%b%", "abc", true}, {"%b%", "ac", false},
		{"%ab%ab", "ab", false}, {"%ab%ab", "abab", true}, {"%ab%ab", "abaab", true}, {"a%b%c", "aXbYbZc", true}, {"a%b%c", "aXcYb", false},
		{"%aab", "aaaab", true}, {"%a_a", "abaca", true}, {"%a_a", "aaab", false}, {"%ab_", "ababc", true}, {"%issip%", "mississippi", true},
		{"a%c_", "abccd", true}, {"%c_%d", "accd", true}, {"%c_%d", "acd", false},
		{"A", "a", false}, {"abc", "aBc", false}, {"a ", "a", false}, {"a", "a ", false},
		{"%", "%", true}, {"_", "%", true}, {"_", "_", true}, {"a", "%", false}, {"a", "_", false}, {"ab", "%", false}, {"ab", "__", false},
		{"\\%", "\\", true}, {"\\%", "%", false}, {"\\%", "\\abc", true}, {"\\_", "\\_", true}, {"\\_", "_", false}, {"[ab]", "a", false}, {"[ab]", "[ab]", true},
		{".*", "ab", false}, {"a*", "aa", false}, {"a?", "ab", false}, {"a?", "a?", true}, {"'%'", "'x'", true},
		{"a_b", "a\nb", true}, {"a%b", "a\n\r\x00b", true}, {"\x00", "\x00", true}, {"\x00", "", false}, {"_", "\x00", true},
	} {
		check(t, c.pattern, c.s, c.want)
	}
}

func TestP6_1CodePoints(t *testing.T) {
	for _, c := range []struct {
		pattern, s string
		want       bool
	}{
		{"_", "\u00e4", true}, {"_", "\u20ac", true}, {"_", "\U0001f600", true}, {"_", "\U0010ffff", true}, {"_", "\ufffd", true},
		{"__", "\u00e4", false}, {"___", "\u20ac", false}, {"____", "\U0001f600", false}, {"_", "\u00e4\u00e4", false}, {"_", "e\u0301", false},
		{"\u00e4", "\u00e4", true}, {"\u00e4", "\u00c4", false}, {"\u00e4", "\u00e5", false}, {"\u00e4", "a\u0308", false},
		{"a_\u20ac%", "a\u00e4\u20ac", true}, {"%\u00e4", "\u00e4\u00e4", true}, {"%\u20ac_", "\u20ac\u20acx", true},
		{"\ufffd", "\ufffd", true}, {"\ufffd", "a", false}, {"%\ufffd%", "a\ufffdb", true},
		// Signs of another width match themselves only, as do code points whose last byte is that of a sign or of a letter.
		{"\uff05", "abc", false}, {"\uff3f", "a", false}, {"\u0125", "abc", false}, {"\u0125", "\u0125", true}, {"\u015f", "a", false}, {"\u0161", "a", false},
	} {
		check(t, c.pattern, c.s, c.want)
	}
}

func TestP6_1ByDefinition(t *testing.T) {
	subjects := append(words([]string{"a", "b"}, 7), words([]string{"a", "\u00e4", "%", "_"}, 3)...)
	for _, pattern := range words([]string{"a", "b", "%", "_"}, 5) {
		p, points := compile(t, pattern), []rune(pattern)
		for _, s := range subjects {
			if is, code := p.Match(s); is != model(points, []rune(s)) || code != api.OK {
				t.Fatalf("Compile(%q).Match(%q) = %v %v", pattern, s, is, code)
			}
		}
	}
}

func TestP6_1SeveralRuns(t *testing.T) {
	subjects := words([]string{"a", "b"}, 8)
	parts := words([]string{"a", "b", "_"}, 2)
	for _, x := range parts {
		for _, y := range parts {
			for _, z := range parts {
				pattern := x + "%" + y + "%" + z
				p, points := compile(t, pattern), []rune(pattern)
				for _, s := range subjects {
					if is, code := p.Match(s); is != model(points, []rune(s)) || code != api.OK {
						t.Fatalf("Compile(%q).Match(%q) = %v %v", pattern, s, is, code)
					}
				}
			}
		}
	}
}

func TestP6_1CompileErrors(t *testing.T) {
	for _, c := range []struct {
		pattern string
		code    api.Errno
	}{
		{strings.Repeat("a", 999), api.OK},
		{strings.Repeat("a", 1000), api.OK},
		{strings.Repeat("%", 1000), api.OK},
		{strings.Repeat("\u00e4", 500), api.OK},
		{"\ufffd\U0010ffff\x00", api.OK},

		{strings.Repeat("a", 1001), api.ErrLong},
		{strings.Repeat("%", 1001), api.ErrLong},
		{strings.Repeat("\u00e4", 500) + "a", api.ErrLong},
		{strings.Repeat("\u00e4", 501), api.ErrLong},
		{strings.Repeat("\xff", 1001), api.ErrLong},
		{strings.Repeat("a", 1000) + "\xff", api.ErrLong},
		{strings.Repeat("a", 1<<20), api.ErrLong},

		{"\xff", api.ErrForm},
		{"\xc3", api.ErrForm},
		{"%\xff%", api.ErrForm},
		{"a\x80", api.ErrForm},
		{"\xc0\xa5", api.ErrForm},
		{"\xed\xa0\x80", api.ErrForm},
		{"\xf4\x90\x80\x80", api.ErrForm},
		{strings.Repeat("a", 999) + "\xff", api.ErrForm},
		{strings.Repeat("\xff", 1000), api.ErrForm},
	} {
		p, code := like.Compile(c.pattern)
		if code != c.code || (p != nil) != (code == api.OK) {
			t.Errorf("Compile of %d bytes, %.20q = %v %v, want %v", len(c.pattern), c.pattern, p != nil, code, c.code)
		}
		// The error of the pattern comes ahead of that of the string.
		for _, s := range []string{"", "a", "\xff", strings.Repeat("a", 100001)} {
			if is, code := like.Match(c.pattern, s); c.code != api.OK && (is || code != c.code) {
				t.Errorf("Match(%.20q, %.20q) = %v %v, want %v", c.pattern, s, is, code, c.code)
			}
		}
	}
}

func TestP6_1MatchErrors(t *testing.T) {
	for _, pattern := range []string{"", "%", "a%", "b", strings.Repeat("%", 1000)} {
		p := compile(t, pattern)
		for _, c := range []struct {
			s    string
			code api.Errno
		}{
			{strings.Repeat("a", 99999), api.OK},
			{strings.Repeat("a", 100000), api.OK},
			{strings.Repeat("\u00e4", 50000), api.OK},
			{strings.Repeat("a", 100001), api.ErrLong},
			{strings.Repeat("\u00e4", 50000) + "a", api.ErrLong},
			{strings.Repeat("\u00e4", 50001), api.ErrLong},
			{strings.Repeat("\xff", 100001), api.ErrLong},
			{strings.Repeat("a", 100000) + "\xff", api.ErrLong},
			{"\xff", api.ErrForm},
			{"a\xc3", api.ErrForm},
			{"\x80a", api.ErrForm},
			{"b\xff", api.ErrForm},
			{"\xed\xbf\xbf", api.ErrForm},
			{strings.Repeat("a", 99999) + "\xff", api.ErrForm},
			{strings.Repeat("\xff", 100000), api.ErrForm},
		} {
			want := c.code == api.OK && (pattern != "" && pattern[0] == '%' || pattern == "a%" && c.s[0] == 'a')
			if is, code := p.Match(c.s); is != want || code != c.code {
				t.Errorf("Compile(%.20q).Match(%.20q) = %v %v, want %v %v", pattern, c.s, is, code, want, c.code)
			}
			if is, code := like.Match(pattern, c.s); is != want || code != c.code {
				t.Errorf("Match(%.20q, %.20q) = %v %v, want %v %v", pattern, c.s, is, code, want, c.code)
			}
		}
	}
}

func TestP6_1NoPattern(t *testing.T) {
	var none *like.Pattern
	for _, p := range []*like.Pattern{none, {}, new(like.Pattern)} {
		for _, s := range []string{"", "a", "%", "\xff", strings.Repeat("a", 100001)} {
			if is, code := p.Match(s); is || code != api.ErrNil {
				t.Errorf("Match(%.20q) without a pattern = %v %v", s, is, code)
			}
		}
	}
	// Unlike them, the pattern of no code points is one.
	if is, code := compile(t, "").Match(""); !is || code != api.OK {
		t.Errorf("Match of the empty pattern = %v %v", is, code)
	}
}

func TestP6_1Again(t *testing.T) {
	a, b := compile(t, "a%b_"), compile(t, "x%")
	for range 3 {
		for _, c := range []struct {
			p    *like.Pattern
			s    string
			want bool
		}{{a, "aabc", true}, {b, "aabc", false}, {a, "x", false}, {b, "x", true}, {a, "abb", true}, {a, "ab", false}} {
			if is, code := c.p.Match(c.s); is != c.want || code != api.OK {
				t.Errorf("Match(%q) = %v %v", c.s, is, code)
			}
		}
		if _, code := a.Match("\xff"); code != api.ErrForm {
			t.Errorf("Match of wrong bytes = %v", code)
		}
	}
}

// TestP6_1Longest has the longest pattern go back at nearly every code point of the longest string.
func TestP6_1Longest(t *testing.T) {
	s := strings.Repeat("a", 100000)
	check(t, "%"+strings.Repeat("a", 998)+"b", s, false)
	check(t, "%"+strings.Repeat("_", 998)+"a", s, true)
	check(t, strings.Repeat("%a", 499)+"%b", s, false)
	check(t, strings.Repeat("%a", 499)+"%", s, true)
	check(t, strings.Repeat("%a", 499)+"%b", s[1:]+"b", true)
	check(t, strings.Repeat("a", 1000), strings.Repeat("a", 1000), true)
	check(t, strings.Repeat("a", 1000), strings.Repeat("a", 1001), false)
	check(t, strings.Repeat("_", 1000), strings.Repeat("a", 999), false)
}

func TestP6_2(t *testing.T) {
	for _, c := range []struct {
		pattern, front string
		least          int
	}{
		{"", "", 0}, {"%", "", 0}, {"_", "", 1}, {"%%%", "", 0}, {"a", "a", 1}, {"abc", "abc", 3},
		{"ab%c", "ab", 3}, {"ab_c", "ab", 4}, {"%ab", "", 2}, {"_ab", "", 3}, {"a%_b", "a", 3}, {"a_%b", "a", 3}, {"a%b_c%", "a", 4},
		{"abc%", "abc", 3}, {"abc_", "abc", 4}, {"a%%b__", "a", 4},
		{"\u00e4\u20ac%", "\u00e4\u20ac", 2}, {"\U0001f600_\u00e4", "\U0001f600", 3}, {"\ufffd%\ufffd", "\ufffd", 2},
		{"\\%", "\\", 1}, {"\x00_", "\x00", 2}, {"\uff05%", "\uff05", 1},
		{strings.Repeat("a", 1000), strings.Repeat("a", 1000), 1000},
		{strings.Repeat("_", 1000), "", 1000},
		{strings.Repeat("\u00e4", 499) + "%_", strings.Repeat("\u00e4", 499), 500},
	} {
		p := compile(t, c.pattern)
		if s := p.Front(); s != c.front {
			t.Errorf("Front of %.20q = %q, want %q", c.pattern, s, c.front)
		}
		if n := p.Least(); n != c.least {
			t.Errorf("Least of %.20q = %d, want %d", c.pattern, n, c.least)
		}
	}
}

func TestP6_2NoPattern(t *testing.T) {
	var none *like.Pattern
	for _, p := range []*like.Pattern{none, {}} {
		if s, n := p.Front(), p.Least(); s != "" || n != 0 {
			t.Errorf("without a pattern: %q %d", s, n)
		}
	}
}

// TestP6_2LeastIsLeast holds Least against the shortest string that matches.
func TestP6_2LeastIsLeast(t *testing.T) {
	subjects := words([]string{"a", "b"}, 4)
	for _, pattern := range words([]string{"a", "b", "%", "_"}, 4) {
		p := compile(t, pattern)
		for _, s := range subjects {
			// In the order of length, so that the first one is a shortest one.
			if is, _ := p.Match(s); is {
				if p.Least() != len(s) {
					t.Errorf("Least of %q = %d, but %q matches first", pattern, p.Least(), s)
				}
				break
			}
		}
	}
}

func TestP6_3(t *testing.T) {
	l := words([]string{"a", "A", "\u00e4", " ", "\\"}, 3)
	every := compile(t, "%")
	for _, pattern := range l {
		p := compile(t, pattern)
		if p.Front() != pattern || p.Least() != utf8.RuneCountInString(pattern) {
			t.Errorf("Front of %q = %q, Least %d", pattern, p.Front(), p.Least())
		}
		for _, s := range l {
			if is, code := p.Match(s); is != (s == pattern) || code != api.OK {
				t.Errorf("Compile(%q).Match(%q) = %v %v", pattern, s, is, code)
			}
		}
		if is, code := every.Match(pattern); !is || code != api.OK {
			t.Errorf("%% matches %q: %v %v", pattern, is, code)
		}
	}
	for _, s := range []string{"", "%", "_", "\x00", strings.Repeat("\u20ac", 33333), strings.Repeat("%", 100000)} {
		if is, code := every.Match(s); !is || code != api.OK {
			t.Errorf("%% matches %.20q: %v %v", s, is, code)
		}
	}
}

func TestP6_4(t *testing.T) {
	subjects := words([]string{"a", "b", "\u00e4"}, 5)
	for _, pattern := range words([]string{"a", "\u00e4", "%", "_"}, 4) {
		p := compile(t, pattern)
		for _, s := range subjects {
			if is, _ := p.Match(s); is && (!strings.HasPrefix(s, p.Front()) || utf8.RuneCountInString(s) < p.Least()) {
				t.Errorf("%q matches %q, but Front is %q and Least %d", pattern, s, p.Front(), p.Least())
			}
		}
	}
}

func TestP6_5(t *testing.T) {
	type pair struct{ pattern, s string }
	var matching []pair
	for _, pattern := range words([]string{"a", "\u00e4", "%", "_"}, 3) {
		p := compile(t, pattern)
		for _, s := range words([]string{"a", "\u00e4"}, 4) {
			if is, _ := p.Match(s); is {
				matching = append(matching, pair{pattern, s})
			}
		}
	}
	if len(matching) < 500 {
		t.Fatalf("%d pairs match", len(matching))
	}
	for i, a := range matching {
		// Some of the pairs of pairs, in turn.
		for j := i % 7; j < len(matching); j += 7 {
			b := matching[j]
			if is, code := like.Match(a.pattern+b.pattern, a.s+b.s); !is || code != api.OK {
				t.Errorf("Match(%q, %q) = %v %v", a.pattern+b.pattern, a.s+b.s, is, code)
			}
		}
	}
}
