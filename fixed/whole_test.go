package fixed_test

import (
	"bytes"
	"math"
	"testing"

	"hindsight/fixed"
)

func TestWhole(t *testing.T) {
	var before [8]byte
	for i, c := range []struct {
		n    int64
		want [8]byte
	}{
		{math.MinInt64, [8]byte{}},
		{math.MinInt64 + 1, [8]byte{7: 1}},
		{-1 << 32, [8]byte{127, 255, 255, 255, 0, 0, 0, 0}},
		{-2, [8]byte{127, 255, 255, 255, 255, 255, 255, 254}},
		{-1, [8]byte{127, 255, 255, 255, 255, 255, 255, 255}},
		{0, [8]byte{128}},
		{1, [8]byte{0: 128, 7: 1}},
		{256, [8]byte{0: 128, 6: 1}},
		{0x0102030405060708, [8]byte{129, 2, 3, 4, 5, 6, 7, 8}},
		{math.MaxInt64 - 1, [8]byte{255, 255, 255, 255, 255, 255, 255, 254}},
		{math.MaxInt64, [8]byte{255, 255, 255, 255, 255, 255, 255, 255}},
	} {
		b := fixed.Whole(c.n)
		if b != c.want {
			t.Errorf("Whole(%d) = %v, want %v", c.n, b, c.want)
		}
		if n := fixed.ReadWhole(c.want); n != c.n {
			t.Errorf("ReadWhole(%v) = %d, want %d", c.want, n, c.n)
		}
		if i > 0 && bytes.Compare(before[:], b[:]) >= 0 {
			t.Errorf("%v is not above %v", b, before)
		}
		before = b
	}
}
