package fixed_test

import (
	"bytes"
	"testing"

	"hindsight/fixed"
)

func TestPutAndGet(t *testing.T) {
	for _, c := range []struct {
		n    int
		want []byte
	}{
		{0, nil}, {0, []byte{0}}, {7, []byte{7}}, {255, []byte{255}},
		{1, []byte{0, 1}}, {256, []byte{1, 0}}, {65535, []byte{255, 255}},
		{4095, []byte{0, 0, 15, 255}}, {0x01020304, []byte{1, 2, 3, 4}},
	} {
		b := bytes.Repeat([]byte{9}, len(c.want))
		if fixed.Put(b, c.n); !bytes.Equal(b, c.want) {
			t.Errorf("Put of %d to %d bytes makes %v, want %v", c.n, len(c.want), b, c.want)
		}
		if n := fixed.Get(c.want); n != c.n {
			t.Errorf("Get(%v) = %d, want %d", c.want, n, c.n)
		}
		if n := fixed.Get(string(c.want)); n != c.n {
			t.Errorf("Get(%q) = %d, want %d", c.want, n, c.n)
		}
	}
}

func TestPutCutsOff(t *testing.T) {
	b := make([]byte, 2)
	if fixed.Put(b, 0x10203); !bytes.Equal(b, []byte{2, 3}) {
		t.Errorf("Put makes %v", b)
	}
	if fixed.Put(b, -1); !bytes.Equal(b, []byte{255, 255}) {
		t.Errorf("Put makes %v", b)
	}
	long := make([]byte, 12)
	if fixed.Put(long, 5); !bytes.Equal(long, []byte{0, 0, 0, 0, 0, 0, 0, 0, 0, 0, 0, 5}) {
		t.Errorf("Put makes %v", long)
	}
}
