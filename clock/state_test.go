package clock_test

import (
	"bytes"
	"math"
	"testing"

	"hindsight/api"
	"hindsight/clock"
	"hindsight/pager"
	"hindsight/vdisk"
)

// roots are numbers that can be that of the page of a catalog.
func roots() []int { return []int{0, 1, 2, 127, 128, 255, 256, 257, 4094, 4095} }

// wrongRoots are numbers that cannot.
func wrongRoots() []int {
	return []int{-1, -2, -4095, -4096, math.MinInt, math.MinInt + 1, 4096, 4097, 65536, 1 << 24, 1<<31 - 1, math.MaxInt - 1, math.MaxInt}
}

// encoded is the encoding of a state by its definition.
func encoded(last int64, root int) [64]byte {
	b := [64]byte{0: 1}
	for i := range 8 {
		b[15-i] = byte(last >> (8 * i))
	}
	b[8] ^= 128
	for i := range 4 {
		b[19-i] = byte(root >> (8 * i))
	}
	return b
}

// reads holds Read against the state that it must return.
func reads(t *testing.T, b [64]byte, want clock.State) {
	t.Helper()
	if s, code := clock.Read(b); s != want || code != api.OK {
		t.Errorf("Read(%v) = %v %v, want %v", b, s, code, want)
	}
}

// corrupt holds that Read of bytes returns no state.
func corrupt(t *testing.T, b [64]byte) {
	t.Helper()
	if s, code := clock.Read(b); s != (clock.State{}) || code != api.ErrCorrupt {
		t.Errorf("Read(%v) = %v %v", b, s, code)
	}
}

func TestP13_1Known(t *testing.T) {
	for _, c := range []struct {
		s    clock.State
		want [64]byte
	}{
		{clock.State{Last: clock.First}, [64]byte{0: 1}},
		{clock.State{Last: clock.First, Root: 7}, [64]byte{0: 1, 19: 7}},
		{clock.State{Last: least + 1}, [64]byte{0: 1, 15: 1}},
		{clock.State{}, [64]byte{0: 1, 8: 128}},
		{clock.State{Last: 6, Root: 1}, [64]byte{0: 1, 8: 128, 15: 6, 19: 1}},
		{clock.State{Last: -1, Root: 4095}, [64]byte{0: 1, 8: 127, 9: 255, 10: 255, 11: 255, 12: 255, 13: 255, 14: 255, 15: 255, 18: 15, 19: 255}},
		{clock.State{Last: 0x0102030405060708, Root: 0x0a0b}, [64]byte{0: 1, 8: 129, 9: 2, 10: 3, 11: 4, 12: 5, 13: 6, 14: 7, 15: 8, 18: 10, 19: 11}},
		{clock.State{Last: most, Root: 256}, [64]byte{0: 1, 8: 255, 9: 255, 10: 255, 11: 255, 12: 255, 13: 255, 14: 255, 15: 254, 18: 1}},
		{clock.State{Last: greatest}, [64]byte{0: 1, 8: 255, 9: 255, 10: 255, 11: 255, 12: 255, 13: 255, 14: 255, 15: 255}},
	} {
		if b, code := clock.Write(c.s); b != c.want || code != api.OK {
			t.Errorf("Write(%v) = %v %v, want %v", c.s, b, code, c.want)
		}
		reads(t, c.want, c.s)
	}
}

func TestP13_1WriteErrors(t *testing.T) {
	for _, root := range wrongRoots() {
		for _, last := range integers() {
			if b, code := clock.Write(clock.State{Last: last, Root: root}); b != ([64]byte{}) || code != api.ErrForm {
				t.Errorf("Write of %d, %d = %v %v", last, root, b, code)
			}
		}
	}
}

func TestP13_1ReadZeros(t *testing.T) {
	reads(t, [64]byte{}, clock.State{Last: clock.First})
	reads(t, [64]byte{0: 1}, clock.State{Last: clock.First})
}

// TestP13_1ReadChanged has each byte of encodings take each value.
func TestP13_1ReadChanged(t *testing.T) {
	for _, last := range []int64{clock.First, -1, 0, 6, greatest} {
		for _, root := range []int{0, 1, 255, 4095} {
			for i := range 64 {
				for c := range 256 {
					b := encoded(last, root)
					was := b[i]
					b[i] = byte(c)
					switch isLast, isRoot := i >= 8 && i < 16, i >= 16 && i < 20; {
					case b == [64]byte{}:
						reads(t, b, clock.State{Last: clock.First})
					case isLast:
						reads(t, b, clock.State{Last: last ^ int64(was^b[i])<<(8*(15-i)), Root: root})
					case isRoot && i == 19, isRoot && i == 18 && c < 16:
						reads(t, b, clock.State{Last: last, Root: root ^ int(was^b[i])<<(8*(19-i))})
					case b[i] == was:
						reads(t, b, clock.State{Last: last, Root: root})
					default:
						corrupt(t, b)
					}
				}
			}
		}
	}
}

func TestP13_1ReadErrors(t *testing.T) {
	for _, b := range [][64]byte{
		{0: 2}, {0: 255}, {0: 129}, {1: 1}, {7: 1}, {0: 1, 1: 1}, {0: 1, 7: 1}, {8: 128}, {15: 1}, {19: 1}, {20: 1}, {63: 1},
		{0: 1, 16: 1}, {0: 1, 16: 128}, {0: 1, 17: 1}, {0: 1, 18: 16}, {0: 1, 18: 255, 19: 255}, {0: 1, 16: 255, 17: 255, 18: 255, 19: 255},
		{0: 1, 20: 1}, {0: 1, 21: 255}, {0: 1, 63: 1}, {0: 72, 1: 83, 2: 68, 3: 49},
	} {
		corrupt(t, b)
	}
	var full [64]byte
	copy(full[:], bytes.Repeat([]byte{255}, 64))
	corrupt(t, full)
	full[0] = 1
	corrupt(t, full)
}

func TestP13_4RoundTrip(t *testing.T) {
	hold := func(s clock.State) {
		b, code := clock.Write(s)
		if b != encoded(s.Last, s.Root) || code != api.OK {
			t.Errorf("Write(%v) = %v %v", s, b, code)
		}
		reads(t, b, s)
	}
	for _, last := range integers() {
		for _, root := range roots() {
			hold(clock.State{Last: last, Root: root})
		}
	}
	for root := range 4096 {
		hold(clock.State{Last: int64(root) - 2000, Root: root})
	}
	next := chance(3)
	for range 20000 {
		hold(clock.State{Last: next.integer(), Root: next.below(4096)})
	}
}

// TestP13_4OneEncoding holds that bytes that are the encoding of a state are those that Write makes of it.
func TestP13_4OneEncoding(t *testing.T) {
	next := chance(4)
	good := 0
	for range 100000 {
		b := encoded(next.integer(), next.below(4096))
		for range next.below(3) {
			b[next.below(64)] ^= byte(1 << next.below(8))
		}
		s, code := clock.Read(b)
		if code != api.OK {
			corrupt(t, b)
			continue
		}
		good++
		if again, code := clock.Write(s); b != [64]byte{} && again != b || code != api.OK {
			t.Fatalf("Write of Read(%v) = %v %v", b, again, code)
		}
	}
	if good < 30000 || good > 90000 {
		t.Errorf("%d of the bytes are encodings", good)
	}
}

// TestP2Header keeps states in the header of a pager, where they are found when the file is opened again.
func TestP2Header(t *testing.T) {
	must := func(code api.Errno) {
		t.Helper()
		if code != api.OK {
			t.Fatal(code)
		}
	}
	d, code := vdisk.New(100)
	must(code)
	p, code := pager.Open(d)
	must(code)
	reads(t, p.Meta(), clock.State{Last: clock.First})
	want := clock.State{Last: clock.First}
	for _, last := range integers() {
		s := clock.State{Last: last, Root: 4095}
		b, code := clock.Write(s)
		must(code)
		must(p.Begin())
		must(p.SetMeta(b))
		reads(t, p.Meta(), s)
		if last%2 == 0 {
			must(p.Commit())
			want = s
		}
		must(d.Crash(nil))
		p, code = pager.Open(d)
		must(code)
		reads(t, p.Meta(), want)
	}
}
