package token_test

import (
	"regexp"
	"strconv"
	"strings"
	"testing"

	"hindsight/api"
	"hindsight/token"
)

// Short names for what the tests make by the dozen.
type tokens = []token.Token

func word(at int, s string) token.Token     { return token.Token{Kind: 1, At: at, Text: s} }
func number(at int, n int64) token.Token    { return token.Token{Kind: 2, At: at, Int: n} }
func quoted(at int, s string) token.Token   { return token.Token{Kind: 3, At: at, Text: s} }
func hexBytes(at int, s string) token.Token { return token.Token{Kind: 4, At: at, Text: s} }
func sign(at int, s string) token.Token     { return token.Token{Kind: 5, At: at, Text: s} }
func end(at int) token.Token                { return token.Token{At: at} }

// equal reports whether two lists are the same, with their places.
func equal(a, b tokens) bool {
	if len(a) != len(b) {
		return false
	}
	for i := range a {
		if a[i] != b[i] {
			return false
		}
	}
	return true
}

// signs are all signs.
func signs() []string {
	return []string{"(", ")", ",", ";", ".", "*", "+", "-", "/", "%", "=", "<", ">", "<=", ">=", "<>", "||"}
}

// read is the tokens of a text that has no error.
func read(t *testing.T, s string) tokens {
	t.Helper()
	l, f := token.Read(s)
	if f != (api.Fault{}) {
		t.Fatalf("Read(%.60q) = %v", s, f)
	}
	return l
}

// refuses holds that a text has this error.
func refuses(t *testing.T, s string, at int, code api.Errno) {
	t.Helper()
	if l, f := token.Read(s); len(l) != 0 || f != (api.Fault{At: at, Code: code}) {
		t.Errorf("Read(%.60q) = %v %v, want %d %v", s, l, f, at, code)
	}
}

// lexer is the definition of the tokens, kind by kind.
type lexer struct {
	blanks, word, number, glued, quoted, open, bytes, hex, sign *regexp.Regexp
}

func newLexer() lexer {
	return lexer{
		blanks: regexp.MustCompile(`\A[ \t\n\r]+`),
		word:   regexp.MustCompile(`\A[A-Za-z_][A-Za-z_0-9]*`),
		number: regexp.MustCompile(`\A[0-9]+`),
		glued:  regexp.MustCompile(`\A[0-9]+[A-Za-z_]`),
		quoted: regexp.MustCompile(`\A'(?:[^']|'')*'(?:[^']|\z)`),
		open:   regexp.MustCompile(`\A[xX]?'`),
		bytes:  regexp.MustCompile(`\A[xX]'`),
		hex:    regexp.MustCompile(`\A'(?:[0-9a-fA-F][0-9a-fA-F])*'\z`),
		sign:   regexp.MustCompile(`\A(?:<=|>=|<>|\|\||[(),;.*+/%=<>-])`),
	}
}

// next is the token at the front of s, its length, and its error.
func (x lexer) next(s string) (token.Token, int, api.Errno) {
	no := token.Token{}
	if x.open.MatchString(s) {
		from := strings.IndexByte(s, '\'')
		q := x.quoted.FindString(s[from:])
		q = q[:strings.LastIndexByte(q, '\'')+1]
		switch {
		case q == "" || from > 0 && !x.hex.MatchString(q):
			return no, 0, api.ErrSyntax
		case from > 0:
			return hexBytes(0, pairs(q[1:len(q)-1])), len(q) + 1, api.OK
		}
		return quoted(0, strings.ReplaceAll(q[1:len(q)-1], "''", "'")), len(q), api.OK
	}
	if w := x.word.FindString(s); w != "" && len(w) <= 20 {
		return word(0, strings.ToLower(w)), len(w), api.OK
	} else if w != "" {
		return no, 0, api.ErrSyntax
	}
	if d := x.number.FindString(s); d != "" {
		n, err := strconv.ParseInt(d, 10, 64)
		switch {
		case x.glued.MatchString(s):
			return no, 0, api.ErrSyntax
		case err != nil:
			return no, 0, api.ErrOver
		}
		return number(0, n), len(d), api.OK
	}
	if c := x.sign.FindString(s); c != "" {
		return sign(0, c), len(c), api.OK
	}
	return no, 0, api.ErrSyntax
}

// pairs are the bytes of two digits each.
func pairs(digits string) string {
	const values = "0123456789abcdef"
	var b []byte
	for i := 0; i < len(digits); i += 2 {
		low := strings.ToLower(digits[i : i+2])
		b = append(b, byte(strings.IndexByte(values, low[0])*16+strings.IndexByte(values, low[1])))
	}
	return string(b)
}

// read is the tokens of a valid text that is not too long, by the definition.
func (x lexer) read(s string) (tokens, api.Fault) {
	var l tokens
	at := 0
	for {
		at += len(x.blanks.FindString(s[at:]))
		if at == len(s) {
			return append(l, end(at)), api.Fault{}
		}
		t, size, code := x.next(s[at:])
		if code != api.OK {
			return nil, api.Fault{At: at, Code: code}
		}
		t.At = at
		l = append(l, t)
		at += size
	}
}

// visit calls f for each string of at most n parts.
func visit(parts []string, n int, s string, f func(s string)) {
	f(s)
	if n == 0 {
		return
	}
	for _, p := range parts {
		visit(parts, n-1, s+p, f)
	}
}

// chance are numbers that follow from each other.
type chance uint64

// below is the next number, from 0 to n - 1.
func (c *chance) below(n int) int {
	*c = *c*6364136223846793005 + 1442695040888963407
	return int(uint64(*c)>>33) % n
}

// of is the next one of l.
func (c *chance) of(l []string) string { return l[c.below(len(l))] }
