package vdisk_test

import (
	"bytes"
	"math"
	"testing"

	"hindsight/api"
	"hindsight/vdisk"
)

// disk is an empty disk.
func disk(t *testing.T, quota int) *vdisk.Disk {
	t.Helper()
	d, code := vdisk.New(quota)
	if d == nil || code != api.OK {
		t.Fatalf("New(%d) = %v %v", quota, d, code)
	}
	return d
}

// full is a sector of one byte.
func full(c byte) []byte { return bytes.Repeat([]byte{c}, api.Sector) }

// put writes a sector of one byte, which must succeed.
func put(t *testing.T, d *vdisk.Disk, file, sector int, c byte) {
	t.Helper()
	if code := d.Write(file, sector, full(c)); code != api.OK {
		t.Fatalf("Write(%d, %d) = %v", file, sector, code)
	}
}

// sync makes a file durable, which must succeed.
func sync(t *testing.T, d *vdisk.Disk, file int) {
	t.Helper()
	if code := d.Sync(file); code != api.OK {
		t.Fatalf("Sync(%d) = %v", file, code)
	}
}

// crash has the disk crash, which must succeed.
func crash(t *testing.T, d *vdisk.Disk, keep ...byte) {
	t.Helper()
	if code := d.Crash(keep); code != api.OK {
		t.Fatalf("Crash(%v) = %v", keep, code)
	}
}

// holds holds a file against the bytes of its sectors.
func holds(t *testing.T, d *vdisk.Disk, file int, want ...byte) {
	t.Helper()
	if n := d.Len(file); n != len(want) {
		t.Errorf("Len(%d) = %d, want %d", file, n, len(want))
	}
	for i, c := range want {
		if b, code := d.Read(file, i); code != api.OK || !bytes.Equal(b, full(c)) {
			t.Errorf("Read(%d, %d) = %v %v, want %d", file, i, b, code, c)
		}
	}
	if b, code := d.Read(file, len(want)); len(b) != 0 || code != api.ErrNone {
		t.Errorf("Read(%d, %d) = %v %v, want no sector", file, len(want), b, code)
	}
}

// counts holds the numbers of pending writes and of calls against those that there must be.
func counts(t *testing.T, d *vdisk.Disk, waits, calls int) {
	t.Helper()
	if d.Waits() != waits || d.Calls() != calls {
		t.Errorf("Waits, Calls = %d %d, want %d %d", d.Waits(), d.Calls(), waits, calls)
	}
}

func wrongQuotas() []int { return []int{0, -1, 65537, math.MinInt, math.MaxInt, 1 << 32} }

func TestP7_1New(t *testing.T) {
	for _, quota := range wrongQuotas() {
		if d, code := vdisk.New(quota); d != nil || code != api.ErrArg {
			t.Errorf("New(%d) = %v %v", quota, d, code)
		}
	}
	for _, quota := range []int{1, 2, 65535, 65536} {
		d := disk(t, quota)
		holds(t, d, 0)
		holds(t, d, 1)
		counts(t, d, 0, 0)
		if d.Down() {
			t.Errorf("New(%d) is down", quota)
		}
		if code := d.Write(1, quota-1, full(1)); code != api.OK || d.Len(1) != quota {
			t.Errorf("Write of the last of %d sectors = %v, Len %d", quota, code, d.Len(1))
		}
		if code := d.Write(0, 0, full(1)); code != api.ErrDisk {
			t.Errorf("Write beyond %d sectors = %v", quota, code)
		}
	}
}

func TestP7_1NewIsOther(t *testing.T) {
	a, b := disk(t, 5), disk(t, 5)
	put(t, a, 0, 0, 1)
	sync(t, a, 0)
	holds(t, b, 0)
	counts(t, b, 0, 0)
	if a == b {
		t.Error("New returns the same disk twice")
	}
}

func TestP7_1Quota(t *testing.T) {
	d := disk(t, 4)
	put(t, d, 0, 1, 1)
	put(t, d, 1, 1, 1)
	for _, quota := range wrongQuotas() {
		if code := d.Quota(quota); code != api.ErrArg {
			t.Errorf("Quota(%d) = %v", quota, code)
		}
		// The quota is the old one: full.
		if code := d.Write(0, 2, full(2)); code != api.ErrDisk {
			t.Errorf("Write after Quota(%d) = %v", quota, code)
		}
		put(t, d, 0, 1, 1)
	}
	if code := d.Quota(65536); code != api.OK {
		t.Errorf("Quota(65536) = %v", code)
	}
	put(t, d, 0, 3, 2)
	if code := d.Quota(1); code != api.OK {
		t.Errorf("Quota(1) = %v", code)
	}
	// What exists stays, and is written again.
	holds(t, d, 0, 0, 1, 0, 2)
	put(t, d, 0, 2, 3)
	put(t, d, 1, 0, 3)
	if code := d.Write(1, 2, full(4)); code != api.ErrDisk {
		t.Errorf("Write beyond the quota = %v", code)
	}
	sync(t, d, 0)
	crash(t, d, 255)
	holds(t, d, 0, 0, 1, 3, 2)
	// Of the other file, the writes to sectors 1 and 0 were pending.
	holds(t, d, 1, 3, 1)
	for quota, want := range map[int]api.Errno{6: api.ErrDisk, 7: api.OK} {
		if d.Quota(quota); d.Write(1, 2, full(4)) != want {
			t.Errorf("Write with quota %d is not %v", quota, want)
		}
		crash(t, d)
	}
}

func TestP7_1NoDisk(t *testing.T) {
	made := disk(t, 5)
	put(t, made, 0, 0, 1)
	put(t, made, 0, 1, 2)
	made.Fail(0)
	made.Sync(0)
	other := *made
	for _, d := range []*vdisk.Disk{nil, {}, new(vdisk.Disk), &other} {
		if d.Len(0) != 0 || d.Len(1) != 0 || d.Len(2) != 0 || d.Waits() != 0 || d.Calls() != 0 || d.Down() {
			t.Errorf("numbers: %d %d %d %v", d.Len(0), d.Waits(), d.Calls(), d.Down())
		}
		for _, n := range []int{0, 1, -1, 70000, math.MinInt, math.MaxInt} {
			// ErrNil comes ahead of the errors of the arguments.
			if b, code := d.Read(n, n); len(b) != 0 || code != api.ErrNil {
				t.Errorf("Read(%d) = %v %v", n, b, code)
			}
			if code := d.Write(n, n, full(1)); code != api.ErrNil {
				t.Errorf("Write(%d) = %v", n, code)
			}
			if code := d.Write(n, 0, nil); code != api.ErrNil {
				t.Errorf("Write(%d) of nothing = %v", n, code)
			}
			if code := d.Sync(n); code != api.ErrNil {
				t.Errorf("Sync(%d) = %v", n, code)
			}
			if code := d.Fail(n); code != api.ErrNil {
				t.Errorf("Fail(%d) = %v", n, code)
			}
		}
		if code := d.Crash(nil); code != api.ErrNil {
			t.Errorf("Crash = %v", code)
		}
		if code := d.Quota(1); code != api.ErrNil {
			t.Errorf("Quota(1) = %v", code)
		}
		// Of Quota alone, the error of the argument is named first.
		for _, quota := range wrongQuotas() {
			if code := d.Quota(quota); code != api.ErrArg {
				t.Errorf("Quota(%d) = %v", quota, code)
			}
		}
	}
	if !made.Down() || made.Waits() != 2 {
		t.Errorf("the disk that was made has changed: %v %d", made.Down(), made.Waits())
	}
	crash(t, made, 255)
	holds(t, made, 0, 1, 2)
}

func TestP7_1Len(t *testing.T) {
	d := disk(t, 100)
	put(t, d, 0, 4, 1)
	holds(t, d, 0, 0, 0, 0, 0, 1)
	holds(t, d, 1)
	put(t, d, 0, 2, 2)
	put(t, d, 1, 0, 3)
	holds(t, d, 0, 0, 0, 2, 0, 1)
	holds(t, d, 1, 3)
	for _, file := range []int{-1, 2, math.MinInt, math.MaxInt} {
		if n := d.Len(file); n != 0 {
			t.Errorf("Len(%d) = %d", file, n)
		}
	}
}

func TestP7_1Counts(t *testing.T) {
	d := disk(t, 3)
	put(t, d, 0, 0, 1)
	put(t, d, 0, 0, 1)
	put(t, d, 1, 0, 1)
	counts(t, d, 3, 3)
	// What does not change anything does not count, nor does a call with an error.
	d.Read(0, 0)
	d.Quota(2)
	d.Fail(50)
	d.Write(0, 5, full(1))
	d.Write(0, -1, full(1))
	d.Write(0, 0, nil)
	d.Sync(2)
	counts(t, d, 3, 3)
	sync(t, d, 0)
	counts(t, d, 1, 4)
	// A Sync counts even if no write is pending.
	sync(t, d, 0)
	counts(t, d, 1, 5)
	sync(t, d, 1)
	counts(t, d, 0, 6)
	put(t, d, 1, 0, 2)
	crash(t, d)
	counts(t, d, 0, 7)
	d.Fail(1)
	put(t, d, 1, 0, 2)
	d.Write(1, 0, full(3))
	d.Write(1, 0, full(3))
	d.Sync(1)
	counts(t, d, 1, 8)
}

func TestP7_2Read(t *testing.T) {
	d := disk(t, 65536)
	put(t, d, 0, 2, 1)
	for _, c := range []struct {
		file, sector int
		code         api.Errno
	}{
		{0, 0, api.OK}, {0, 2, api.OK}, {0, 3, api.ErrNone}, {0, 65535, api.ErrNone}, {0, 65536, api.ErrNone}, {0, math.MaxInt, api.ErrNone},
		{1, 0, api.ErrNone}, {1, 2, api.ErrNone},
		{0, -1, api.ErrArg}, {0, math.MinInt, api.ErrArg}, {1, -1, api.ErrArg},
		{-1, 0, api.ErrArg}, {2, 0, api.ErrArg}, {math.MinInt, 0, api.ErrArg}, {math.MaxInt, 0, api.ErrArg}, {2, -1, api.ErrArg}, {2, 9, api.ErrArg},
	} {
		if b, code := d.Read(c.file, c.sector); code != c.code || (len(b) == api.Sector) != (code == api.OK) || code != api.OK && len(b) != 0 {
			t.Errorf("Read(%d, %d) = %v %v, want %v", c.file, c.sector, b, code, c.code)
		}
	}
	d.Fail(0)
	d.Sync(0)
	for _, c := range []struct {
		file, sector int
		code         api.Errno
	}{
		{0, 0, api.ErrDown}, {0, 3, api.ErrDown}, {1, 0, api.ErrDown}, {0, math.MaxInt, api.ErrDown},
		{0, -1, api.ErrArg}, {2, 0, api.ErrArg}, {-1, 0, api.ErrArg},
	} {
		if b, code := d.Read(c.file, c.sector); code != c.code || len(b) != 0 {
			t.Errorf("Read(%d, %d) of a disk that is down = %v %v, want %v", c.file, c.sector, b, code, c.code)
		}
	}
}

func TestP7_2WriteErrors(t *testing.T) {
	type write struct {
		file, sector, size int
		code               api.Errno
	}
	wrong := []write{
		{-1, 0, 128, api.ErrArg}, {2, 0, 128, api.ErrArg}, {math.MaxInt, 0, 128, api.ErrArg}, {math.MinInt, 0, 128, api.ErrArg},
		{0, -1, 128, api.ErrArg}, {0, math.MinInt, 128, api.ErrArg}, {0, 65536, 128, api.ErrArg}, {1, math.MaxInt, 128, api.ErrArg},
		{0, 0, 0, api.ErrArg}, {0, 0, 127, api.ErrArg}, {0, 0, 129, api.ErrArg}, {1, 0, 512, api.ErrArg}, {0, 65535, 127, api.ErrArg},
	}
	for _, c := range []struct {
		name string
		make func(d *vdisk.Disk)
		more []write
	}{
		{"full", func(*vdisk.Disk) {}, []write{
			{0, 2, 128, api.ErrDisk}, {1, 1, 128, api.ErrDisk}, {0, 65535, 128, api.ErrDisk}, {1, 65535, 128, api.ErrDisk},
		}},
		// A write that returns ErrDisk would not change anything, so that the plan is not up for it.
		{"planned", func(d *vdisk.Disk) { d.Fail(0) }, []write{
			{0, 2, 128, api.ErrDisk}, {1, 65535, 128, api.ErrDisk}, {0, 0, 128, api.ErrDown}, {0, 2, 128, api.ErrDown},
		}},
		{"down", func(d *vdisk.Disk) { d.Fail(0); d.Sync(1) }, []write{
			{0, 0, 128, api.ErrDown}, {1, 0, 128, api.ErrDown}, {0, 2, 128, api.ErrDown}, {1, 65535, 128, api.ErrDown},
		}},
	} {
		d := disk(t, 3)
		put(t, d, 0, 1, 1)
		put(t, d, 1, 0, 2)
		c.make(d)
		for _, w := range append(append([]write{}, wrong...), c.more...) {
			if code := d.Write(w.file, w.sector, make([]byte, w.size)); code != w.code {
				t.Errorf("%s: Write(%d, %d) of %d bytes = %v, want %v", c.name, w.file, w.sector, w.size, code, w.code)
			}
		}
		counts(t, d, 2, 2)
		crash(t, d, 3)
		holds(t, d, 0, 0, 1)
		holds(t, d, 1, 2)
	}
}

func TestP7_2WriteQuota(t *testing.T) {
	// The example of the chapter.
	d := disk(t, 3)
	if code := d.Write(0, 3, full(1)); code != api.ErrDisk {
		t.Errorf("Write(0, 3) with quota 3 = %v", code)
	}
	holds(t, d, 0)
	put(t, d, 0, 1, 1)
	put(t, d, 1, 0, 1)
	// Sectors that were not written count as well, as the length does.
	if code := d.Write(1, 1, full(1)); code != api.ErrDisk {
		t.Errorf("Write(1, 1) = %v", code)
	}
	put(t, d, 0, 0, 2)
	// A crash makes room again.
	crash(t, d, 2)
	holds(t, d, 0)
	holds(t, d, 1, 1)
	put(t, d, 1, 2, 3)
	holds(t, d, 1, 1, 0, 3)
}

func TestP7_2WriteGreatest(t *testing.T) {
	d := disk(t, 65536)
	put(t, d, 0, 65535, 7)
	if b, code := d.Read(0, 65535); code != api.OK || !bytes.Equal(b, full(7)) || d.Len(0) != 65536 {
		t.Errorf("Read(0, 65535) = %v %v", b, code)
	}
	if code := d.Write(1, 0, full(1)); code != api.ErrDisk {
		t.Errorf("Write to the other file = %v", code)
	}
	if b, code := d.Read(0, 65536); len(b) != 0 || code != api.ErrNone {
		t.Errorf("Read(0, 65536) = %v %v", b, code)
	}
}

func TestP7_2Memory(t *testing.T) {
	d := disk(t, 5)
	long := append(full(1), 9, 9)
	b := long[:api.Sector]
	if code := d.Write(0, 0, b); code != api.OK {
		t.Fatalf("Write = %v", code)
	}
	clear(long)
	holds(t, d, 0, 1)
	got, _ := d.Read(0, 0)
	clear(got[:cap(got)])
	holds(t, d, 0, 1)
	sync(t, d, 0)
	put(t, d, 0, 0, 2)
	keep := []byte{0}
	crash(t, d, keep...)
	holds(t, d, 0, 1)
	hole, _ := d.Read(0, 0)
	hole[0] = 5
	holds(t, d, 0, 1)
	if code := d.Write(0, 0, b[:3:3]); code != api.ErrArg {
		t.Errorf("Write of 3 bytes = %v", code)
	}
}

func TestP7_2Sync(t *testing.T) {
	d := disk(t, 10)
	put(t, d, 0, 0, 1)
	put(t, d, 1, 0, 2)
	put(t, d, 0, 1, 3)
	for _, file := range []int{-1, 2, math.MinInt, math.MaxInt} {
		if code := d.Sync(file); code != api.ErrArg {
			t.Errorf("Sync(%d) = %v", file, code)
		}
	}
	counts(t, d, 3, 3)
	sync(t, d, 0)
	counts(t, d, 1, 4)
	holds(t, d, 1, 2)
	crash(t, d)
	holds(t, d, 0, 1, 3)
	holds(t, d, 1)

	put(t, d, 0, 0, 4)
	d.Fail(0)
	if code := d.Sync(2); code != api.ErrArg || d.Down() {
		t.Errorf("Sync(2) with a plan = %v %v", code, d.Down())
	}
	for range 2 {
		if code := d.Sync(0); code != api.ErrDown || !d.Down() {
			t.Errorf("Sync that the plan has fail = %v %v", code, d.Down())
		}
	}
	if code := d.Sync(2); code != api.ErrArg {
		t.Errorf("Sync(2) of a disk that is down = %v", code)
	}
	crash(t, d)
	holds(t, d, 0, 1, 3)
}

func TestP7_3Fail(t *testing.T) {
	d := disk(t, 10)
	for _, n := range []int{-1, math.MinInt} {
		if code := d.Fail(n); code != api.ErrArg {
			t.Errorf("Fail(%d) = %v", n, code)
		}
	}
	put(t, d, 0, 0, 1)
	for _, n := range []int{0, 1, 2, 5} {
		if code := d.Fail(n); code != api.OK {
			t.Errorf("Fail(%d) = %v", n, code)
		}
		for i := range n {
			if d.Down() {
				t.Errorf("Fail(%d): down after %d calls", n, i)
			}
			// Neither a call with an error nor one that does not change anything counts.
			d.Read(0, 0)
			d.Write(0, 50, full(1))
			d.Write(0, 0, nil)
			d.Sync(2)
			if i%2 == 0 {
				put(t, d, 0, 0, byte(10*n+i))
			} else {
				sync(t, d, 0)
			}
		}
		if b, code := d.Read(0, 0); len(b) != api.Sector || code != api.OK || d.Down() {
			t.Errorf("Fail(%d): Read ahead of the failure = %v %v", n, code, d.Down())
		}
		calls := d.Calls()
		for range 2 {
			if code := d.Write(0, 0, full(99)); code != api.ErrDown || !d.Down() {
				t.Errorf("Fail(%d): Write = %v %v", n, code, d.Down())
			}
			if code := d.Sync(0); code != api.ErrDown {
				t.Errorf("Fail(%d): Sync = %v", n, code)
			}
			if b, code := d.Read(0, 0); len(b) != 0 || code != api.ErrDown {
				t.Errorf("Fail(%d): Read = %v %v", n, b, code)
			}
		}
		if d.Calls() != calls {
			t.Errorf("Fail(%d): Calls = %d, want %d", n, d.Calls(), calls)
		}
		crash(t, d, 255)
		if d.Down() {
			t.Errorf("Fail(%d): down after a crash", n)
		}
		// There is no plan any more.
		for range 20 {
			sync(t, d, 0)
		}
	}
}

func TestP7_3FailAgain(t *testing.T) {
	d := disk(t, 10)
	d.Fail(0)
	d.Fail(-1)
	if code := d.Sync(0); code != api.ErrDown {
		t.Errorf("Fail(-1) has changed the plan: %v", code)
	}
	// A disk that is down stays so until a crash, which ends the new plan, too.
	for _, n := range []int{0, 3} {
		if code := d.Fail(n); code != api.OK || !d.Down() {
			t.Errorf("Fail(%d) of a disk that is down = %v %v", n, code, d.Down())
		}
		if code := d.Sync(0); code != api.ErrDown {
			t.Errorf("Sync = %v", code)
		}
	}
	crash(t, d)
	for range 5 {
		sync(t, d, 0)
	}
	// A plan replaces the one before it.
	d.Fail(0)
	d.Fail(2)
	sync(t, d, 0)
	d.Fail(1)
	sync(t, d, 0)
	if code := d.Sync(0); code != api.ErrDown {
		t.Errorf("Sync beyond the plan = %v", code)
	}
	crash(t, d)
	d.Fail(1)
	crash(t, d)
	sync(t, d, 0)
	sync(t, d, 0)
}

func TestP7_3DownStill(t *testing.T) {
	d := disk(t, 3)
	put(t, d, 0, 1, 1)
	d.Fail(0)
	d.Sync(0)
	// A disk that is down still has its numbers, and its quota can be set.
	counts(t, d, 1, 1)
	if d.Len(0) != 2 || d.Quota(2) != api.OK || d.Quota(0) != api.ErrArg || d.Fail(-1) != api.ErrArg {
		t.Errorf("Len = %d", d.Len(0))
	}
	crash(t, d, 1)
	if code := d.Write(1, 0, full(1)); code != api.ErrDisk {
		t.Errorf("Write beyond the new quota = %v", code)
	}
}

func TestP7_3CrashBits(t *testing.T) {
	for i := range 20 {
		d := disk(t, 40)
		// Write number n is that of sector n / 2 of file n % 2.
		for n := range 20 {
			put(t, d, n%2, n/2, byte(n+1))
		}
		keep := make([]byte, i/8+1)
		keep[i/8] = 1 << (i % 8)
		crash(t, d, keep...)
		want := make([]byte, i/2+1)
		want[i/2] = byte(i + 1)
		holds(t, d, i%2, want...)
		holds(t, d, 1-i%2)
		counts(t, d, 0, 20)
	}
}

func TestP7_3CrashShortKeep(t *testing.T) {
	for _, keep := range [][]byte{nil, {}, {0}, {0, 0, 0}, make([]byte, 2, 9)[:0]} {
		d := disk(t, 40)
		put(t, d, 0, 0, 1)
		sync(t, d, 0)
		for range 20 {
			put(t, d, 0, 0, 2)
		}
		put(t, d, 1, 3, 2)
		crash(t, d, keep...)
		holds(t, d, 0, 1)
		holds(t, d, 1)
	}
	// What is beyond the length of keep is no bit of it; what it has too many is passed over.
	d := disk(t, 40)
	for i := range 10 {
		put(t, d, 0, i, byte(i+1))
	}
	if code := d.Crash([]byte{128, 255}[:1]); code != api.OK {
		t.Errorf("Crash = %v", code)
	}
	holds(t, d, 0, 0, 0, 0, 0, 0, 0, 0, 8)
	crash(t, d, 255, 255)
	holds(t, d, 0, 0, 0, 0, 0, 0, 0, 0, 8)
}

func TestP7_3CrashOrder(t *testing.T) {
	for keep, want := range map[byte]byte{0: 9, 1: 1, 2: 2, 3: 2, 4: 3, 5: 3, 6: 3, 7: 3} {
		d := disk(t, 5)
		put(t, d, 0, 0, 9)
		sync(t, d, 0)
		for n := range 3 {
			put(t, d, 0, 0, byte(n+1))
		}
		crash(t, d, keep)
		holds(t, d, 0, want)
		// It is durable now.
		crash(t, d)
		holds(t, d, 0, want)
	}
}

func TestP7_3CrashNumbers(t *testing.T) {
	// After a Sync of the other file, the writes that are left are numbered anew.
	d := disk(t, 10)
	put(t, d, 1, 0, 1)
	put(t, d, 0, 0, 2)
	put(t, d, 1, 1, 3)
	put(t, d, 0, 1, 4)
	sync(t, d, 1)
	put(t, d, 1, 0, 5)
	crash(t, d, 2)
	holds(t, d, 0, 0, 4)
	holds(t, d, 1, 1, 3)
}

func TestP7_3CrashLength(t *testing.T) {
	d := disk(t, 10)
	put(t, d, 0, 2, 1)
	sync(t, d, 0)
	put(t, d, 0, 5, 2)
	put(t, d, 1, 3, 3)
	holds(t, d, 0, 0, 0, 1, 0, 0, 2)
	crash(t, d)
	holds(t, d, 0, 0, 0, 1)
	holds(t, d, 1)
	// A sector of zeros that was written is one.
	put(t, d, 0, 3, 0)
	put(t, d, 1, 1, 0)
	crash(t, d, 3)
	holds(t, d, 0, 0, 0, 1, 0)
	holds(t, d, 1, 0, 0)
}
