// Package varint is layer 1: integers and strings with variable length.
package varint

import (
	"hindsight/api"
)

// The tenth byte holds the one bit of 64 that nine groups of seven leave over.
const (
	lastIndex = 9
	lastByte  = 1
)

// Put is the encoding of v.
func Put(v uint64) []byte {
	var b []byte
	for v > 127 {
		b = append(b, byte(v)|128)
		v >>= 7
	}
	return append(b, byte(v))
}

// Get is the integer that begins at index at, and the index behind it.
func Get(b []byte, at int) (uint64, int, api.Errno) {
	if at < 0 || at > len(b) {
		return 0, 0, api.ErrArg
	}
	v := uint64(0)
	end := -1
bytes:
	for i, c := range b[at:] {
		v |= uint64(c&127) << (7 * i)
		switch {
		case i == lastIndex && c > lastByte:
			return 0, 0, api.ErrForm
		case i > 0 && c == 0:
			// A shorter encoding has the same integer.
			return 0, 0, api.ErrForm
		case c < 128:
			end = at + i + 1
			break bytes
		}
	}
	if end < 0 {
		return 0, 0, api.ErrShort
	}
	return v, end, api.OK
}

// Zig is the zigzag form of n.
func Zig(n int64) uint64 {
	if n < 0 {
		// -2n - 1 without a step that could overflow: the complement of n is -n - 1.
		return uint64(^n)<<1 | 1
	}
	return uint64(n) << 1
}

// Zag is the integer with the zigzag form v.
func Zag(v uint64) int64 {
	n := int64(v >> 1)
	if v&1 == 1 {
		return ^n
	}
	return n
}

// PutInt is the encoding of the zigzag form of n.
func PutInt(n int64) []byte { return Put(Zig(n)) }

// GetInt is the integer whose zigzag form begins at index at, and the index behind it.
func GetInt(b []byte, at int) (int64, int, api.Errno) {
	v, end, err := Get(b, at)
	if err != api.OK {
		return 0, 0, err
	}
	return Zag(v), end, api.OK
}

// PutText is the encoding of the length of s, followed by s.
func PutText(s string) []byte {
	return append(Put(uint64(len(s))), s...)
}

// GetText is the string whose length begins at index at, and the index behind it.
func GetText(b []byte, at int) (string, int, api.Errno) {
	size, from, err := Get(b, at)
	if err != api.OK {
		return "", 0, err
	}
	// Compared before it is converted, as a size may be above every int.
	if size > uint64(len(b)-from) {
		return "", 0, api.ErrShort
	}
	end := from + int(size)
	return string(b[from:end]), end, api.OK
}
