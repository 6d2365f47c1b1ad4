package journal_test

import (
	"bytes"
	"math/bits"
	"testing"

	"hindsight/api"
	"hindsight/journal"
	"hindsight/vdisk"
)

// restore is the error of Restore, of which the bool must be that there is none.
func restore(t *testing.T) func(d *vdisk.Disk) api.Errno {
	return func(d *vdisk.Disk) api.Errno {
		done, code := journal.Restore(d)
		if done != (code == api.OK) {
			t.Errorf("Restore = %v %v", done, code)
		}
		return code
	}
}

func TestP8_4Cold(t *testing.T) {
	d := disk(t, 50)
	for range 2 {
		if done, code := journal.Restore(d); done || code != api.OK || d.Calls() != 0 {
			t.Errorf("Restore of an empty disk = %v %v, Calls %d", done, code, d.Calls())
		}
	}
	putPage(t, d, 1, full(1, 512))
	save(t, d, []journal.Entry{{Page: 1, Image: full(2, 512)}}, 2)
	journal.Clear(d)
	calls := d.Calls()
	if done, code := journal.Restore(d); done || code != api.OK || d.Calls() != calls {
		t.Errorf("Restore of a journal that was cleared = %v %v", done, code)
	}
	isPage(t, d, 1, full(1, 512))
}

func TestP8_4Steps(t *testing.T) {
	zeros := make([]byte, 128)
	ending := []step{sync(0), write(1, 0, zeros), sync(1)}
	for i, c := range []struct {
		length int // of file 0
		l      []journal.Entry
		want   []step
	}{
		{0, nil, nil},
		{9, nil, nil},
		{9, []journal.Entry{{Page: 1, Image: page(1, 2, 3, 4)}}, []step{
			write(0, 4, full(1, 128)), write(0, 5, full(2, 128)), write(0, 6, full(3, 128)), write(0, 7, full(4, 128)),
		}},
		{8, []journal.Entry{{Page: 1, Image: page(0, 2, 0, 0)}}, []step{
			write(0, 4, zeros), write(0, 5, full(2, 128)), write(0, 6, zeros), write(0, 7, zeros),
		}},
		{6, []journal.Entry{{Page: 1, Image: make([]byte, 512)}}, []step{write(0, 4, zeros), write(0, 5, zeros)}},
		{4, []journal.Entry{{Page: 1, Image: make([]byte, 512)}}, nil},
		{0, []journal.Entry{{Page: 4095, Image: make([]byte, 512)}, {Page: 0, Image: make([]byte, 512)}}, nil},
		// What is not zeros is written beyond the end, and the zeros that are below the new one, too.
		{0, []journal.Entry{{Page: 1, Image: page(0, 2, 0, 4)}, {Page: 0, Image: page(0, 0, 0, 9)}}, []step{
			write(0, 5, full(2, 128)), write(0, 7, full(4, 128)),
			write(0, 0, zeros), write(0, 1, zeros), write(0, 2, zeros), write(0, 3, full(9, 128)),
		}},
		// Of two entries for a page, the later one is written later.
		{4, []journal.Entry{{Page: 0, Image: full(1, 512)}, {Page: 0, Image: page(2, 2, 2, 0)}}, []step{
			write(0, 0, full(1, 128)), write(0, 1, full(1, 128)), write(0, 2, full(1, 128)), write(0, 3, full(1, 128)),
			write(0, 0, full(2, 128)), write(0, 1, full(2, 128)), write(0, 2, full(2, 128)), write(0, 3, zeros),
		}},
		// One byte, wherever it is, is enough for a sector not to be zeros.
		{0, []journal.Entry{{Page: 0, Image: append(make([]byte, 511), 1)}, {Page: 1, Image: append([]byte{1}, make([]byte, 511)...)}}, []step{
			write(0, 3, append(make([]byte, 127), 1)), write(0, 4, append([]byte{1}, make([]byte, 127)...)),
		}},
	} {
		start := func() *vdisk.Disk {
			d := disk(t, 100)
			for sector := range c.length {
				put(t, d, 0, sector, full(200, 128))
			}
			save(t, d, c.l, 3)
			return d
		}
		t.Log(i)
		checkSteps(t, start, restore(t), append(append([]step{}, c.want...), ending...))
		d := start()
		if code := restore(t)(d); code != api.OK {
			t.Errorf("%d: Restore = %v", i, code)
		}
		isCold(t, d)
		if done, code := journal.Restore(d); done || code != api.OK {
			t.Errorf("%d: Restore once more = %v %v", i, done, code)
		}
	}
}

func TestP8_4NoRoom(t *testing.T) {
	d := disk(t, 50)
	save(t, d, []journal.Entry{{Page: 0, Image: full(1, 512)}, {Page: 1, Image: full(2, 512)}}, 3)
	d.Quota(17)
	// There is room for the 11 sectors of the journal and 6 others.
	if done, code := journal.Restore(d); done || code != api.ErrDisk {
		t.Errorf("Restore = %v %v", done, code)
	}
	isHot(t, d, []journal.Entry{{Page: 0, Image: full(1, 512)}, {Page: 1, Image: full(2, 512)}}, 3)
	isPage(t, d, 0, full(1, 512))
	isPage(t, d, 1, page(2, 2, 0, 0))
	d.Quota(19)
	if done, code := journal.Restore(d); !done || code != api.OK {
		t.Errorf("Restore = %v %v", done, code)
	}
	isPage(t, d, 1, full(2, 512))
}

// chance is a sequence of numbers that is the same in every run.
type chance uint64

// below is the next number, from 0 to n - 1.
func (c *chance) below(n int) int {
	*c = *c*6364136223846793005 + 1442695040888963407
	return int(uint64(*c)>>33) % n
}

// page is the next page; about half of its sectors are zeros.
func (c *chance) page() []byte {
	var l [4]byte
	for i := range l {
		l[i] = byte(max(0, c.below(300)-150))
	}
	return page(l[0], l[1], l[2], l[3])
}

// pagesOf are the pages of the disk.
func pagesOf(t *testing.T, d *vdisk.Disk, n int) [][]byte {
	t.Helper()
	var l [][]byte
	for i := range n {
		b, code := journal.ReadPage(d, i)
		if code != api.OK {
			t.Fatalf("ReadPage(%d) = %v", i, code)
		}
		l = append(l, b)
	}
	return l
}

// TestP8_5 saves some pages of a disk, changes any sectors of them, in part durably, crashes or not, and restores them.
func TestP8_5(t *testing.T) {
	for seed := range 300 {
		next := chance(seed)
		d := disk(t, 200)
		for range next.below(6) {
			put(t, d, 0, next.below(24), full(byte(next.below(5)), 128))
		}
		d.Sync(0)
		before := pagesOf(t, d, 8)
		var l []journal.Entry
		for i, b := range before {
			if next.below(2) == 0 {
				l = append(l, journal.Entry{Page: i, Image: b})
			}
		}
		save(t, d, l, 8)
		for range next.below(12) {
			if len(l) == 0 {
				break
			}
			at := l[next.below(len(l))].Page
			put(t, d, 0, 4*at+next.below(4), next.page()[:128])
			if next.below(4) == 0 {
				d.Sync(0)
			}
		}
		if next.below(2) == 0 {
			d.Crash([]byte{byte(next.below(256)), byte(next.below(256))})
		}
		isHot(t, d, l, 8)
		if done, code := journal.Restore(d); !done || code != api.OK {
			t.Fatalf("Restore = %v %v", done, code)
		}
		for range 2 {
			for i, b := range before {
				isPage(t, d, i, b)
			}
			isCold(t, d)
			d.Crash(nil)
		}
	}
}

// crashes calls each time on a new disk, failing at every step, and crashes it with every choice of the pending writes that are at most 10.
func crashes(t *testing.T, start func() *vdisk.Disk, call func(d *vdisk.Disk) api.Errno, check func(d *vdisk.Disk, code api.Errno)) {
	t.Helper()
	for n, code := 0, api.ErrDown; code != api.OK; n++ {
		waits := 0
		for choice := 0; choice < 1<<waits || choice == 0; choice++ {
			d := start()
			d.Fail(n)
			code = call(d)
			if code != api.OK && code != api.ErrDown {
				t.Fatalf("after %d calls: %v", n, code)
			}
			waits = min(d.Waits(), 10)
			// Beyond the first 10 writes, all are kept, or none.
			rest := byte(255 * (bits.OnesCount(uint(choice)) % 2))
			d.Crash([]byte{byte(choice), byte(choice>>8) | rest<<2, rest, rest})
			check(d, code)
			if t.Failed() {
				t.Fatalf("failed after %d calls, choice %d", n, choice)
			}
		}
	}
}

// sample is a disk with three pages, one of them with zeros at its end and one beyond the end of the file, and the entries of two pages.
func sample(t *testing.T) (*vdisk.Disk, []journal.Entry) {
	t.Helper()
	d := disk(t, 200)
	putPage(t, d, 0, page(1, 2, 3, 4))
	putPage(t, d, 1, page(5, 6, 7, 8))
	put(t, d, 0, 9, full(9, 128))
	d.Sync(0)
	return d, []journal.Entry{{Page: 0, Image: page(1, 2, 3, 4)}, {Page: 2, Image: page(0, 9, 0, 0)}}
}

func TestP8_6Save(t *testing.T) {
	_, l := sample(t)
	for _, used := range []bool{false, true} {
		start := func() *vdisk.Disk {
			d, _ := sample(t)
			if used {
				save(t, d, []journal.Entry{{Page: 1, Image: full(200, 512)}, {Page: 0, Image: full(201, 512)}, {Page: 3, Image: full(202, 512)}}, 9)
				journal.Clear(d)
			}
			return d
		}
		crashes(t, start, func(d *vdisk.Disk) api.Errno { return journal.Save(d, l, 3) }, func(d *vdisk.Disk, code api.Errno) {
			_, _, hot, loaded := journal.Load(d)
			if loaded != api.OK || code == api.OK && !hot {
				t.Errorf("Load after Save = %v %v", hot, loaded)
			}
			if hot {
				isHot(t, d, l, 3)
			}
			if done, code := journal.Restore(d); done != hot || code != api.OK {
				t.Errorf("Restore = %v %v", done, code)
			}
			isSample(t, d)
		})
	}
}

// isSample holds the disk against the pages of the sample.
func isSample(t *testing.T, d *vdisk.Disk) {
	t.Helper()
	isPage(t, d, 0, page(1, 2, 3, 4))
	isPage(t, d, 1, page(5, 6, 7, 8))
	isPage(t, d, 2, page(0, 9, 0, 0))
	isPage(t, d, 3, make([]byte, 512))
}

// TestP8_6Change crashes while the saved pages are changed.
func TestP8_6Change(t *testing.T) {
	start := func() *vdisk.Disk {
		d, l := sample(t)
		save(t, d, l, 3)
		return d
	}
	change := func(d *vdisk.Disk) api.Errno {
		for _, n := range []int{2, 0} {
			if code := journal.WritePage(d, n, full(byte(100+n), 512)); code != api.OK {
				return code
			}
		}
		return d.Sync(0)
	}
	crashes(t, start, change, func(d *vdisk.Disk, _ api.Errno) {
		if done, code := journal.Restore(d); !done || code != api.OK {
			t.Errorf("Restore = %v %v", done, code)
		}
		isSample(t, d)
	})
}

// TestP8_6Restore crashes during Restore, of pages that were changed durably or not; another Restore follows.
func TestP8_6Restore(t *testing.T) {
	_, l := sample(t)
	for _, durable := range []bool{false, true} {
		start := func() *vdisk.Disk {
			d, l := sample(t)
			save(t, d, l, 3)
			putPage(t, d, 2, full(100, 512))
			if durable {
				putPage(t, d, 0, full(101, 512))
				d.Sync(0)
			}
			return d
		}
		crashes(t, start, restore(t), func(d *vdisk.Disk, code api.Errno) {
			_, _, hot, loaded := journal.Load(d)
			if loaded != api.OK || code == api.OK && hot {
				t.Errorf("Load after Restore = %v %v", hot, loaded)
			}
			if hot {
				isHot(t, d, l, 3)
			} else {
				isSample(t, d)
			}
			if done, code := journal.Restore(d); done != hot || code != api.OK {
				t.Errorf("Restore = %v %v", done, code)
			}
			isSample(t, d)
			if b, _ := d.Read(1, 0); !bytes.Equal(b, make([]byte, 128)) {
				t.Errorf("the header is %v", b)
			}
		})
	}
}
