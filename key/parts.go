package key

import (
	"hindsight/fixed"
)

// readWhole is the integer with which b begins, and whether there is one.
func readWhole(b []byte) (int64, bool) {
	var a [fixed.WholeSize]byte
	if copy(a[:], b) < len(a) {
		return 0, false
	}
	return fixed.ReadWhole(a), true
}

// escape is s with its zeros marked and its end added.
func escape(s string) []byte {
	var b []byte
	for _, c := range []byte(s) {
		b = append(b, c)
		if c == 0 {
			b = append(b, zeroMark)
		}
	}
	return append(b, 0, endMark)
}

// unescape is the string whose escaped form b begins with, the number of bytes of that form, and whether there is one.
func unescape(b []byte) (string, int, bool) {
	var s []byte
	isMark := false
	size := 0
bytes:
	for i, c := range b {
		switch {
		case isMark && c == endMark:
			size = i + 1
			break bytes
		case isMark && c != zeroMark:
			break bytes
		case isMark:
			s, isMark = append(s, 0), false
		case c == 0:
			isMark = true
		default:
			s = append(s, c)
		}
	}
	return string(s), size, size > 0
}
