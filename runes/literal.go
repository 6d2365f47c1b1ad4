package runes

import (
	"strconv"
	"strings"

	"hindsight/api"
)

const (
	quoteText   = "'"
	doubleQuote = "''"
)

// Fold is s with a to z in place of A to Z.
func Fold(s string) string {
	// By bytes, as a string that is not valid keeps its wrong bytes; none of a longer code point is a capital.
	b := []byte(s)
	for i, c := range b {
		if isCapital(rune(c)) {
			b[i] = c - 'A' + 'a'
		}
	}
	return string(b)
}

// Name is the canonical form of the name s.
func Name(s string) (string, api.Errno) {
	if len(s) > api.MaxName {
		return "", api.ErrLong
	}
	if !isName(s) {
		return "", api.ErrForm
	}
	return Fold(s), api.OK
}

// isName reports whether s is a letter followed by letters and digits.
func isName(s string) bool {
	for i, r := range s {
		class := Class(r)
		if class != letter && (class != digit || i == 0) {
			return false
		}
	}
	return s != ""
}

// Quote is the quoted string of s.
func Quote(s string) string {
	return quoteText + strings.ReplaceAll(s, quoteText, doubleQuote) + quoteText
}

// Unquote is the string of which s is the quoted string.
func Unquote(s string) (string, api.Errno) {
	body := strings.TrimSuffix(strings.TrimPrefix(s, quoteText), quoteText)
	plain := strings.ReplaceAll(body, doubleQuote, quoteText)
	// Quoting it again tells a quote that is missing, or one that stands alone.
	if Quote(plain) != s {
		return "", api.ErrForm
	}
	return plain, api.OK
}

// Number is the integer with the decimal digits s.
func Number(s string) (int64, api.Errno) {
	if !isDigits(s) {
		return 0, api.ErrForm
	}
	n, err := strconv.ParseInt(s, 10, 64)
	if err != nil {
		return 0, api.ErrOver
	}
	return n, api.OK
}

// isDigits reports whether s consists of digits, one at least.
func isDigits(s string) bool {
	for _, r := range s {
		if Class(r) != digit {
			return false
		}
	}
	return s != ""
}

// Digits is the decimal digits of n.
func Digits(n int64) string { return strconv.FormatInt(n, 10) }
