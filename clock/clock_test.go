package clock_test

import (
	"math"
	"math/big"
	"testing"

	"hindsight/api"
	"hindsight/clock"
)

// The least and the greatest integers, and the greatest stamp.
const (
	least    = math.MinInt64
	greatest = math.MaxInt64
	most     = greatest - 1
)

// integers are integers of all sizes, among them the least and the greatest ones.
func integers() []int64 {
	return []int64{
		least, least + 1, least + 2, -1 << 32, -256, -2, -1, 0, 1, 2, 7, 255, 256, 4095, 4096, 1 << 32,
		greatest - 4, greatest - 3, greatest - 2, most, greatest,
	}
}

// chance is a sequence of numbers that is the same in every run.
type chance uint64

// next is the next number.
func (c *chance) next() uint64 {
	*c = *c*6364136223846793005 + 1442695040888963407
	return uint64(*c>>32) ^ uint64(*c)<<32
}

// below is the next number, from 0 to n - 1.
func (c *chance) below(n int) int { return int(c.next() % uint64(n)) }

// integer is an integer of any size.
func (c *chance) integer() int64 {
	if all := integers(); c.below(4) == 0 {
		return all[c.below(len(all))]
	}
	return int64(c.next()) >> c.below(64)
}

// model is the next stamp by its definition, with integers that cannot overflow.
func model(last, reading int64) (int64, api.Errno) {
	next := new(big.Int).Add(big.NewInt(last), big.NewInt(1))
	if at := big.NewInt(reading); at.Cmp(next) > 0 {
		next = at
	}
	if next.Cmp(big.NewInt(most)) > 0 {
		return 0, api.ErrClock
	}
	return next.Int64(), api.OK
}

// sees holds the last stamp of a clock, and the next ones, against those that it must have.
func sees(t *testing.T, c *clock.Clock, last int64) {
	t.Helper()
	if got := c.Last(); got != last {
		t.Errorf("Last = %d, want %d", got, last)
	}
	for _, reading := range integers() {
		want, wantCode := model(last, reading)
		if got, code := c.Ask(reading); got != want || code != wantCode {
			t.Errorf("Ask(%d) after %d = %d %v, want %d %v", reading, last, got, code, want, wantCode)
		}
	}
	if got := c.Last(); got != last {
		t.Errorf("Last behind Ask = %d, want %d", got, last)
	}
}

func TestP13_1First(t *testing.T) {
	if clock.First != int64(least) {
		t.Errorf("First = %d", int64(clock.First))
	}
}

func TestP13_1Next(t *testing.T) {
	for _, c := range []struct {
		last, reading, want int64
		code                api.Errno
	}{
		{7, 3, 8, api.OK}, {7, 9, 9, api.OK}, {7, 7, 8, api.OK}, {7, 8, 8, api.OK}, {7, 6, 8, api.OK}, {7, -9, 8, api.OK},
		{-1, -5, 0, api.OK}, {-9, -5, -5, api.OK}, {-9, -8, -8, api.OK}, {-9, -9, -8, api.OK}, {0, 0, 1, api.OK},

		{clock.First, least, least + 1, api.OK}, {clock.First, least + 1, least + 1, api.OK}, {clock.First, least + 2, least + 2, api.OK},
		{clock.First, 0, 0, api.OK}, {0, clock.First, 1, api.OK}, {clock.First, most, most, api.OK}, {clock.First, most - 1, most - 1, api.OK},
		{most - 1, least, most, api.OK}, {most - 1, most - 1, most, api.OK}, {most - 1, most, most, api.OK},
		{most - 2, 0, most - 1, api.OK}, {most - 2, most, most, api.OK},

		{clock.First, greatest, 0, api.ErrClock}, {0, greatest, 0, api.ErrClock}, {most - 1, greatest, 0, api.ErrClock},
		{most, least, 0, api.ErrClock}, {most, 0, 0, api.ErrClock}, {most, most, 0, api.ErrClock}, {most, greatest, 0, api.ErrClock},
		{greatest, least, 0, api.ErrClock}, {greatest, 0, 0, api.ErrClock}, {greatest, most, 0, api.ErrClock}, {greatest, greatest, 0, api.ErrClock},
	} {
		if got, code := clock.Next(c.last, c.reading); got != c.want || code != c.code {
			t.Errorf("Next(%d, %d) = %d %v, want %d %v", c.last, c.reading, got, code, c.want, c.code)
		}
	}
}

func TestP13_1NextByDefinition(t *testing.T) {
	hold := func(last, reading int64) {
		want, wantCode := model(last, reading)
		if got, code := clock.Next(last, reading); got != want || code != wantCode {
			t.Errorf("Next(%d, %d) = %d %v, want %d %v", last, reading, got, code, want, wantCode)
		}
	}
	for _, last := range integers() {
		for _, reading := range integers() {
			hold(last, reading)
		}
	}
	next := chance(1)
	for range 20000 {
		hold(next.integer(), next.integer())
	}
}

func TestP13_2New(t *testing.T) {
	for _, last := range integers() {
		c := clock.New(last)
		if c == nil {
			t.Fatalf("New(%d) is nil", last)
		}
		sees(t, c, last)
	}
}

func TestP13_2Keep(t *testing.T) {
	for _, last := range integers() {
		for _, stamp := range integers() {
			c := clock.New(last)
			want, now := api.ErrArg, last
			if stamp > last {
				want, now = api.OK, stamp
			}
			if code := c.Keep(stamp); code != want {
				t.Errorf("Keep(%d) after %d = %v, want %v", stamp, last, code, want)
			}
			sees(t, c, now)
			// What is the last stamp is not above it.
			if code := c.Keep(now); code != api.ErrArg {
				t.Errorf("Keep of the last stamp %d = %v", now, code)
			}
			sees(t, c, now)
		}
	}
}

// TestP13_2Several holds that each clock has a last stamp of its own.
func TestP13_2Several(t *testing.T) {
	a, b, c := clock.New(1), clock.New(1), clock.New(5)
	if code := a.Keep(9); code != api.OK {
		t.Errorf("Keep = %v", code)
	}
	sees(t, a, 9)
	sees(t, b, 1)
	sees(t, c, 5)
}

func TestP13_2Nil(t *testing.T) {
	var c *clock.Clock
	if last := c.Last(); last != 0 {
		t.Errorf("Last = %d", last)
	}
	for _, n := range integers() {
		if stamp, code := c.Ask(n); stamp != 0 || code != api.ErrNil {
			t.Errorf("Ask(%d) = %d %v", n, stamp, code)
		}
		if code := c.Keep(n); code != api.ErrNil {
			t.Errorf("Keep(%d) = %v", n, code)
		}
	}
}

// TestP1Zero holds that a clock that no call made is one with the last stamp 0: only for nil there is an error.
func TestP1Zero(t *testing.T) {
	c := new(clock.Clock)
	sees(t, c, 0)
	if code := c.Keep(3); code != api.OK {
		t.Errorf("Keep = %v", code)
	}
	sees(t, c, 3)
}

// TestP13_3 keeps one stamp after the other, with readings that rise, fall and stay.
func TestP13_3(t *testing.T) {
	next := chance(2)
	for i := range 200 {
		last := int64(clock.First)
		if i%2 == 1 {
			last = next.integer()
		}
		c := clock.New(last)
		for range 200 {
			reading := next.integer()
			if next.below(3) > 0 {
				// Close to the last stamp, on either side; the sum may wrap round.
				reading = last + int64(next.below(9)) - 4
			}
			stamp, code := c.Ask(reading)
			if code != api.OK {
				if last < most && reading < greatest || code != api.ErrClock || stamp != 0 {
					t.Fatalf("Ask(%d) after %d = %d %v", reading, last, stamp, code)
				}
				continue
			}
			if stamp <= last || stamp != max(reading, last+1) || stamp > most {
				t.Fatalf("Ask(%d) after %d = %d", reading, last, stamp)
			}
			// A stamp that is asked for and not kept is asked for again.
			if next.below(4) == 0 {
				continue
			}
			if code := c.Keep(stamp); code != api.OK || c.Last() != stamp {
				t.Fatalf("Keep(%d) after %d = %v", stamp, last, code)
			}
			last = stamp
		}
	}
}

// TestP13_3End keeps the last stamps that there are.
func TestP13_3End(t *testing.T) {
	c := clock.New(most - 3)
	for want := int64(most - 2); want <= most; want++ {
		stamp, code := c.Ask(least)
		if stamp != want || code != api.OK || c.Keep(stamp) != api.OK {
			t.Fatalf("Ask = %d %v, want %d", stamp, code, want)
		}
	}
	for _, reading := range integers() {
		if stamp, code := c.Ask(reading); stamp != 0 || code != api.ErrClock {
			t.Errorf("Ask(%d) = %d %v", reading, stamp, code)
		}
	}
	if c.Last() != most {
		t.Errorf("Last = %d", c.Last())
	}
}
