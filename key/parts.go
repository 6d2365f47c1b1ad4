package key

// wholeSize is the number of bytes of an integer.
const wholeSize = 8

// whole is n in bytes that have the order of integers.
func whole(n int64) [wholeSize]byte {
	var a [wholeSize]byte
	for i := range a {
		a[i] = byte(uint64(n) >> (8 * (wholeSize - 1 - i)))
	}
	a[0] ^= signBit
	return a
}

// readWhole is the integer with which b begins, and whether there is one.
func readWhole(b []byte) (int64, bool) {
	var a [wholeSize]byte
	if copy(a[:], b) < wholeSize {
		return 0, false
	}
	a[0] ^= signBit
	n := uint64(0)
	for _, c := range a {
		n = n<<8 | uint64(c)
	}
	return int64(n), true
}

// escape is s with its zeros marked and its end added.
func escape(s string) []byte {
	var b []byte
	for _, c := range []byte(s) {
		b = append(b, c)
		if c == 0 {
			b = append(b, zeroMark)
		}
	}
	return append(b, 0, endMark)
}

// unescape is the string whose escaped form b begins with, the number of bytes of that form, and whether there is one.
func unescape(b []byte) (string, int, bool) {
	var s []byte
	isMark := false
	size := 0
bytes:
	for i, c := range b {
		switch {
		case isMark && c == endMark:
			size = i + 1
			break bytes
		case isMark && c != zeroMark:
			break bytes
		case isMark:
			s, isMark = append(s, 0), false
		case c == 0:
			isMark = true
		default:
			s = append(s, c)
		}
	}
	return string(s), size, size > 0
}
