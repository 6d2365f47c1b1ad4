package token

import "strconv"

const hex = "0123456789abcdef"

// digitsOf is two digits for each byte of s.
func digitsOf(s string) string {
	var l []byte
	for i := range len(s) {
		l = append(l, hex[s[i]>>4], hex[s[i]&15])
	}
	return string(l)
}

// bytesOf is the bytes with these digits, two for each of them, and whether there are any such bytes.
func bytesOf(digits string) (string, bool) {
	if len(digits)%2 != 0 {
		return "", false
	}
	var l []byte
	for at := 0; at < len(digits); at += 2 {
		b, err := strconv.ParseUint(digits[at:at+2], len(hex), 8)
		if err != nil {
			return "", false
		}
		l = append(l, byte(b))
	}
	return string(l), true
}
