package token

import (
	"slices"
	"strings"
	"unicode/utf8"

	"hindsight/api"
	"hindsight/runes"
)

// The classes of code points, as package runes numbers them.
const (
	blank  = 1
	letter = 2
	digit  = 3
	quote  = 4
)

// front is the token at the front of s, which begins with no blank, and how many bytes it has there.
func front(s string) (Token, int, api.Errno) {
	// Ahead of the words, as each of these would begin with one.
	if strings.HasPrefix(s, "x'") || strings.HasPrefix(s, "X'") {
		return blob(s)
	}
	first, _ := utf8.DecodeRuneInString(s)
	switch runes.Class(first) {
	case letter:
		return word(s)
	case digit:
		return number(s)
	case quote:
		return quoted(s)
	}
	return sign(s)
}

func word(s string) (Token, int, api.Errno) {
	size := run(s, letter, digit)
	name, err := runes.Name(s[:size])
	if err != api.OK {
		return Token{}, 0, api.ErrSyntax
	}
	return Token{Kind: Word, Text: name}, size, api.OK
}

func number(s string) (Token, int, api.Errno) {
	size := run(s, digit)
	if run(s, digit, letter) > size {
		return Token{}, 0, api.ErrSyntax
	}
	n, err := runes.Number(s[:size])
	if err != api.OK {
		return Token{}, 0, err
	}
	return Token{Kind: Number, Int: n}, size, api.OK
}

func quoted(s string) (Token, int, api.Errno) {
	size := quotes(s)
	content, err := runes.Unquote(s[:size])
	if err != api.OK {
		return Token{}, 0, api.ErrSyntax
	}
	return Token{Kind: Quoted, Text: content}, size, api.OK
}

// blob is the token of the x at the front of s and the quoted string behind it.
func blob(s string) (Token, int, api.Errno) {
	digits, size, err := quoted(s[1:])
	if err != api.OK {
		return Token{}, 0, err
	}
	content, is := bytesOf(digits.Text)
	if !is {
		return Token{}, 0, api.ErrSyntax
	}
	return Token{Kind: Bytes, Text: content}, 1 + size, api.OK
}

func sign(s string) (Token, int, api.Errno) {
	// The longer ones first, as shorter ones are fronts of them.
	signs := [...]string{"<=", ">=", "<>", "||", "(", ")", ",", ";", ".", "*", "+", "-", "/", "%", "=", "<", ">"}
	for _, x := range signs {
		if strings.HasPrefix(s, x) {
			return Token{Kind: Sign, Text: x}, len(x), api.OK
		}
	}
	return Token{}, 0, api.ErrSyntax
}

// run is how many bytes at the front of s belong to code points of these classes only.
func run(s string, classes ...int) int {
	for i, r := range s {
		if !slices.Contains(classes, runes.Class(r)) {
			return i
		}
	}
	return len(s)
}

// quotes is how many bytes the quoted string has that begins with the quote at the front of s; 0 if it does not end.
func quotes(s string) int {
	size, open := 0, false
points:
	for i, r := range s {
		switch {
		case r == '\'':
			// The second one of two quotes opens again what the first one closed.
			open = !open
			size = i + 1
		case !open:
			break points
		}
	}
	if open {
		return 0
	}
	return size
}
