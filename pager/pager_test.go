package pager_test

import (
	"bytes"
	"math"
	"testing"

	"hindsight/api"
	"hindsight/journal"
	"hindsight/pager"
	"hindsight/vdisk"
)

// isRefused reports an error if a disk can be opened, or with another error.
func isRefused(t *testing.T, what string, d *vdisk.Disk, want api.Errno) {
	t.Helper()
	if p, code := pager.Open(d); p != nil || code != want {
		t.Errorf("Open of %s = %v %v, want %v", what, p, code, want)
	}
}

func TestP9_1Empty(t *testing.T) {
	for _, d := range []*vdisk.Disk{disk(t, 1), disk(t, 100), laid(t, make([]byte, 512)), laid(t, make([]byte, 512), full(1))} {
		calls := d.Calls()
		p := open(t, d)
		if p.Pages() != 1 || p.Meta() != metaOf(0) || p.In() || d.Calls() != calls {
			t.Errorf("Pages %d, Meta %v, In %v, %d calls", p.Pages(), p.Meta(), p.In(), d.Calls()-calls)
		}
		must(t, "Begin", p.Begin())
		alloc(t, p, 1)
	}
}

func TestP9_1Headers(t *testing.T) {
	for _, c := range []struct{ pages, free int }{{1, 0}, {2, 0}, {2, 1}, {300, 299}, {300, 1}, {4095, 4094}, {4096, 0}, {4096, 4095}} {
		d := laid(t, head(c.pages, c.free, 7))
		calls := d.Calls()
		p := open(t, d)
		if p.Pages() != c.pages || p.Meta() != metaOf(7) || p.In() || d.Calls() != calls {
			t.Errorf("Pages %d, Meta %v, In %v, want %d", p.Pages(), p.Meta(), p.In(), c.pages)
		}
		must(t, "Begin", p.Begin())
		if c.free > 0 {
			alloc(t, p, c.free)
		}
		if n, code := p.Alloc(); c.pages < 4096 && (n != c.pages || code != api.OK) || c.pages == 4096 && (n != 0 || code != api.ErrFull) {
			t.Errorf("Alloc = %d %v, Pages %d", n, code, c.pages)
		}
	}
	// Missing sectors count as zeros.
	d := disk(t, 9)
	must(t, "Write", d.Write(0, 0, head(3, 0, 9)[:128]))
	if p := open(t, d); p.Pages() != 3 || p.Meta() != metaOf(9) {
		t.Errorf("Pages %d, Meta %v", p.Pages(), p.Meta())
	}
}

func TestP9_1Corrupt(t *testing.T) {
	for _, c := range [][2]int{{0, 0}, {0, 1}, {4097, 0}, {4097, 1}, {1 << 16, 0}, {1 << 24, 0}, {1 << 31, 0}, {1<<32 - 1, 0}, {1, 1}, {1, 2}, {2, 2}, {2, 3}, {2, 1 << 31}, {2, 1<<32 - 1}, {4096, 4096}, {2, 1 << 24}} {
		isRefused(t, "a wrong number", laid(t, head(c[0], c[1], 7)), api.ErrCorrupt)
	}
	other := head(2, 1, 7)
	copy(other, "HSJ1")
	for _, b := range [][]byte{full(1), full(255), other, head(0, 0, 0), append(make([]byte, 12), head(2, 1, 7)[12:]...), append(make([]byte, 511), 1), append([]byte{72, 83, 68, 49}, make([]byte, 508)...)} {
		isRefused(t, "no header", laid(t, b), api.ErrCorrupt)
	}
}

// TestP9_1EachByte changes each byte of a header.
func TestP9_1EachByte(t *testing.T) {
	for i := range 512 {
		for _, c := range []byte{1, 2, 16, 128, 255} {
			b := head(5, 4, 7)
			b[i] ^= c
			d := laid(t, b)
			pages, free := int(b[7]), int(b[11])
			isMeta := i >= 12 && i < 76
			if isMeta || (i == 7 || i == 11) && pages >= 1 && free < pages {
				if p := open(t, d); p.Pages() != pages || p.Meta() != [64]byte(b[12:76]) {
					t.Errorf("byte %d = %d: Pages %d, Meta %v", i, b[i], p.Pages(), p.Meta())
				}
			} else if i != 6 {
				isRefused(t, "another byte", d, api.ErrCorrupt)
			}
		}
		if i >= 76 || i < 12 {
			b := make([]byte, 512)
			b[i] = 1
			isRefused(t, "one byte that is not zero", laid(t, b), api.ErrCorrupt)
		}
	}
}

func TestP9_1OpenErrors(t *testing.T) {
	made := laid(t, head(2, 0, 7))
	other := *made
	for _, d := range []*vdisk.Disk{nil, {}, new(vdisk.Disk), &other} {
		isRefused(t, "no disk", d, api.ErrNil)
	}
	isRefused(t, "a disk that is down", down(made), api.ErrDown)
	// The error of Restore is named ahead of that of page 0.
	wrong := laid(t, full(9))
	h, _ := journal.Head(1, 2)
	must(t, "Write", wrong.Write(1, 0, h))
	isRefused(t, "a journal without its entry", wrong, api.ErrCorrupt)
	isRefused(t, "such a journal on a disk that is down", down(wrong), api.ErrDown)
	small := laid(t, full(9))
	must(t, "Save", journal.Save(small, []journal.Entry{{Page: 1, Image: full(1)}}, 2))
	small.Quota(1)
	isRefused(t, "a page without room", small, api.ErrDisk)
}

// TestP9_1Restore opens a disk whose journal is hot.
func TestP9_1Restore(t *testing.T) {
	for _, c := range []struct {
		old, now []byte
		pages    int
	}{{head(3, 0, 7), full(9), 3}, {head(3, 0, 7), head(2, 0, 8), 3}, {make([]byte, 512), head(2, 0, 8), 1}} {
		d := laid(t, c.old, full(1))
		must(t, "Save", journal.Save(d, []journal.Entry{{Page: 0, Image: c.old}, {Page: 1, Image: full(1)}}, 2))
		lay(t, d, c.now, full(2))
		p := open(t, d)
		if p.Pages() != c.pages {
			t.Errorf("Pages = %d, want %d", p.Pages(), c.pages)
		}
		isOnDisk(t, d, 0, c.old)
		isOnDisk(t, d, 1, full(1))
		if _, _, hot, code := journal.Load(d); hot || code != api.OK {
			t.Errorf("Load = %v %v", hot, code)
		}
	}
	d := laid(t, head(3, 0, 7))
	must(t, "Save", journal.Save(d, []journal.Entry{{Page: 0, Image: full(9)}}, 2))
	isRefused(t, "a wrong header in the journal", d, api.ErrCorrupt)
	isOnDisk(t, d, 0, full(9))
}

// noPagers are pagers that Open did not make.
func noPagers(t *testing.T) []*pager.Pager {
	t.Helper()
	p := begun(t, laid(t, head(3, 0, 7), full(1), full(2)))
	save(t, p, 1)
	other := *p
	return []*pager.Pager{nil, {}, new(pager.Pager), &other}
}

func TestP9_1NoPager(t *testing.T) {
	for i, p := range noPagers(t) {
		if p.In() || p.Pages() != 0 || p.Meta() != metaOf(0) {
			t.Errorf("%d: In %v, Pages %d, Meta %v", i, p.In(), p.Pages(), p.Meta())
		}
		for _, n := range []int{1, 0, -1, 2, math.MaxInt, math.MinInt} {
			b, get := p.Get(n)
			if len(b) != 0 {
				t.Errorf("%d: Get(%d) = %v", i, n, b)
			}
			for _, code := range []api.Errno{get, p.Put(n, full(1)), p.Put(n, nil), p.Free(n), p.Back(n), p.Release(n)} {
				wants(t, "a call on no pager", code, api.ErrNil)
			}
		}
		a, alloc := p.Alloc()
		s, save := p.Save()
		if a != 0 || s != 0 {
			t.Errorf("%d: Alloc = %d, Save = %d", i, a, s)
		}
		for _, code := range []api.Errno{alloc, save, p.SetMeta(metaOf(1)), p.Begin(), p.Commit(), p.Rollback(), p.Begin()} {
			wants(t, "a call on no pager", code, api.ErrNil)
		}
	}
}

func TestP9_2Begin(t *testing.T) {
	d := laid(t, head(3, 0, 7), full(1), full(2))
	p := open(t, d)
	calls := d.Calls()
	must(t, "Begin", p.Begin())
	if !p.In() || p.Pages() != 3 || p.Meta() != metaOf(7) || d.Calls() != calls {
		t.Errorf("In %v, Pages %d, Meta %v", p.In(), p.Pages(), p.Meta())
	}
	wants(t, "Begin", p.Begin(), api.ErrTx)
	down(d)
	wants(t, "Begin", p.Begin(), api.ErrTx)
	must(t, "Rollback", p.Rollback())
	wants(t, "Begin of a disk that is down", p.Begin(), api.ErrDown)
	if p.In() {
		t.Error("there is a transaction")
	}
	wants(t, "Put", p.Put(1, full(5)), api.ErrTx)
	must(t, "Crash", d.Crash(nil))
	must(t, "Begin", p.Begin())
	if !p.In() {
		t.Error("there is no transaction")
	}
}

// outside are numbers of pages that a pager with three pages does not have.
func outside() []int { return []int{0, -1, 3, 4, 4095, 4096, math.MinInt, math.MaxInt, 1<<32 + 1} }

func TestP9_2Get(t *testing.T) {
	d := laid(t, head(3, 0, 7), full(1), full(2), full(3))
	p := open(t, d)
	for range 2 {
		isPage(t, p, 1, full(1))
		isPage(t, p, 2, full(2))
		for _, n := range outside() {
			if b, code := p.Get(n); len(b) != 0 || code != api.ErrArg {
				t.Errorf("Get(%d) = %v %v", n, b, code)
			}
		}
		p.Begin()
	}
	put(t, p, 1, 5)
	isPage(t, p, 1, full(5))
	isPage(t, p, 2, full(2))
	b, _ := p.Get(1)
	clear(b)
	b, _ = p.Get(2)
	clear(b)
	isPage(t, p, 1, full(5))
	isPage(t, p, 2, full(2))
	down(d)
	isPage(t, p, 1, full(5))
	if b, code := p.Get(2); len(b) != 0 || code != api.ErrDown {
		t.Errorf("Get of a disk that is down = %v %v", b, code)
	}
	for _, n := range outside() {
		if b, code := p.Get(n); len(b) != 0 || code != api.ErrArg {
			t.Errorf("Get(%d) = %v %v", n, b, code)
		}
	}
	// Missing sectors count as zeros.
	isPage(t, open(t, laid(t, head(4096, 0, 7))), 4095, make([]byte, 512))
}

func TestP9_2Put(t *testing.T) {
	d := laid(t, head(3, 0, 7), full(1), full(2), full(3))
	p := open(t, d)
	for _, n := range append(outside(), 1, 2) {
		for _, b := range [][]byte{full(5), nil, full(5)[:511]} {
			wants(t, "Put without a transaction", p.Put(n, b), api.ErrTx)
		}
	}
	must(t, "Begin", p.Begin())
	calls := d.Calls()
	for _, n := range outside() {
		wants(t, "Put", p.Put(n, full(5)), api.ErrArg)
	}
	for _, b := range [][]byte{nil, {}, {1}, full(5)[:511], append(full(5), 5), append(full(5), full(5)...), full(5)[:128]} {
		wants(t, "Put", p.Put(1, b), api.ErrArg)
	}
	isPage(t, p, 1, full(1))
	b := full(5)
	must(t, "Put", p.Put(1, b))
	clear(b)
	isPage(t, p, 1, full(5))
	isPage(t, p, 2, full(2))
	put(t, p, 1, 6)
	isPage(t, p, 1, full(6))
	isOnDisk(t, d, 1, full(1))
	if d.Calls() != calls || p.Pages() != 3 || p.Meta() != metaOf(7) {
		t.Errorf("%d calls, Pages %d, Meta %v", d.Calls()-calls, p.Pages(), p.Meta())
	}
	down(d)
	must(t, "Put on a disk that is down", p.Put(2, full(9)))
	isPage(t, p, 2, full(9))
}

func TestP9_2SetMeta(t *testing.T) {
	d := laid(t, head(3, 0, 7), full(1), full(2))
	p := open(t, d)
	wants(t, "SetMeta", p.SetMeta(metaOf(8)), api.ErrTx)
	must(t, "Begin", p.Begin())
	if p.Meta() != metaOf(7) {
		t.Errorf("Meta = %v", p.Meta())
	}
	must(t, "SetMeta", p.SetMeta(metaOf(8)))
	if p.Meta() != metaOf(8) || p.Pages() != 3 {
		t.Errorf("Meta = %v, Pages = %d", p.Meta(), p.Pages())
	}
	isOnDisk(t, d, 0, head(3, 0, 7))
	m := metaOf(0)
	for i := range m {
		m[i] = byte(i + 1)
	}
	must(t, "SetMeta", p.SetMeta(m))
	must(t, "Commit", p.Commit())
	if p.Meta() != m {
		t.Errorf("Meta = %v", p.Meta())
	}
	want := head(3, 0, 0)
	copy(want[12:], m[:])
	isOnDisk(t, d, 0, want)
	if q := open(t, d); q.Meta() != m {
		t.Errorf("Meta = %v", q.Meta())
	}
}

func TestP9_2Additional(t *testing.T) {
	// What the file has beyond the last page does not matter.
	d := laid(t, head(2, 0, 7), full(1), full(2), full(3))
	p := open(t, d)
	if n, code := p.Alloc(); n != 0 || code != api.ErrTx {
		t.Errorf("Alloc = %d %v", n, code)
	}
	must(t, "Begin", p.Begin())
	calls := d.Calls()
	for n := 2; n < 6; n++ {
		alloc(t, p, n)
		if p.Pages() != n+1 {
			t.Errorf("Pages = %d", p.Pages())
		}
	}
	put(t, p, 5, 5)
	isPage(t, p, 5, full(5))
	isOnDisk(t, d, 2, full(2))
	if d.Calls() != calls {
		t.Error("the disk is changed")
	}
	must(t, "Commit", p.Commit())
	for range 2 {
		for n, want := range [][]byte{nil, full(1), make([]byte, 512), make([]byte, 512), make([]byte, 512), full(5)} {
			if n > 0 {
				isPage(t, p, n, want)
			}
		}
		isOnDisk(t, d, 0, head(6, 0, 7))
		p = open(t, d)
	}
	// It needs nothing of the disk.
	must(t, "Begin", p.Begin())
	down(d)
	alloc(t, p, 6)
}

func TestP9_2MostPages(t *testing.T) {
	for _, c := range []struct {
		pages, free int
		want        []int
	}{{4096, 0, nil}, {4095, 0, []int{4095}}, {4094, 0, []int{4094, 4095}}, {4096, 5, []int{5}}, {4095, 4094, []int{4094, 4095}}} {
		d := laid(t, head(c.pages, c.free, 7))
		p := begun(t, d)
		for _, n := range c.want {
			alloc(t, p, n)
		}
		if len(c.want) > 0 {
			must(t, "Commit", p.Commit())
			must(t, "Begin", p.Begin())
		}
		calls := d.Calls()
		for range 2 {
			if n, code := p.Alloc(); n != 0 || code != api.ErrFull {
				t.Errorf("Alloc = %d %v", n, code)
			}
		}
		// A call that returned an error has changed nothing.
		must(t, "Commit", p.Commit())
		if d.Calls() != calls || p.Pages() != 4096 {
			t.Errorf("%d calls, Pages %d", d.Calls()-calls, p.Pages())
		}
		must(t, "Begin", p.Begin())
		must(t, "Free", p.Free(9))
		alloc(t, p, 9)
	}
}

func TestP9_2Free(t *testing.T) {
	d := laid(t, head(4, 0, 7), full(1), full(2), full(3))
	p := open(t, d)
	for _, n := range append(outside(), 1, 2) {
		wants(t, "Free without a transaction", p.Free(n), api.ErrTx)
	}
	must(t, "Begin", p.Begin())
	for _, n := range outside() {
		if n != 3 {
			wants(t, "Free", p.Free(n), api.ErrArg)
		}
	}
	calls := d.Calls()
	must(t, "Free", p.Free(2))
	isPage(t, p, 2, freePage(0))
	must(t, "Free", p.Free(3))
	isPage(t, p, 3, freePage(2))
	must(t, "Free", p.Free(1))
	isPage(t, p, 1, freePage(3))
	isPage(t, p, 2, freePage(0))
	if d.Calls() != calls || p.Pages() != 4 || p.Meta() != metaOf(7) {
		t.Errorf("%d calls, Pages %d, Meta %v", d.Calls()-calls, p.Pages(), p.Meta())
	}
	must(t, "Commit", p.Commit())
	for i, want := range [][]byte{head(4, 1, 7), freePage(3), freePage(0), freePage(2)} {
		isOnDisk(t, d, i, want)
	}
	for range 2 {
		p = begun(t, d)
		alloc(t, p, 1)
		alloc(t, p, 3)
		must(t, "Free", p.Free(1))
		isPage(t, p, 1, freePage(2))
		alloc(t, p, 1)
		alloc(t, p, 2)
		alloc(t, p, 4)
		must(t, "Rollback", p.Rollback())
	}
	p = begun(t, d)
	down(d)
	must(t, "Free on a disk that is down", p.Free(2))
}

func TestP9_2FreeSteps(t *testing.T) {
	d := laid(t, head(4, 3, 7), full(1), freePage(0), freePage(2))
	p := begun(t, d)
	alloc(t, p, 3)
	must(t, "Commit", p.Commit())
	for i, want := range [][]byte{head(4, 2, 7), full(1), freePage(0), make([]byte, 512)} {
		isOnDisk(t, d, i, want)
	}
	must(t, "Begin", p.Begin())
	alloc(t, p, 2)
	must(t, "Commit", p.Commit())
	isOnDisk(t, d, 0, head(4, 0, 7))
	isOnDisk(t, d, 2, make([]byte, 512))
}

// TestP9_2AllocErrors allocates a first free page that is none.
func TestP9_2AllocErrors(t *testing.T) {
	refuses := func(b []byte, want api.Errno) {
		t.Helper()
		d := laid(t, head(4, 2, 7), full(1), b, freePage(0))
		p := begun(t, d)
		if want == api.ErrDown {
			down(d)
		}
		before, calls := view(p), d.Calls()
		for range 2 {
			if n, code := p.Alloc(); n != 0 || code != want {
				t.Errorf("Alloc of %v = %d %v, want %v", b, n, code, want)
			}
		}
		if view(p) != before || p.Commit() != api.OK || d.Calls() != calls {
			t.Error("a call that returned an error has changed something")
		}
	}
	for _, next := range []int{4, 5, 255, 256, 4096, 1 << 16, 1 << 24, 1 << 31, 1<<32 - 1} {
		refuses(freePage(next), api.ErrCorrupt)
	}
	for i := 4; i < 512; i++ {
		b := freePage(3)
		b[i] = 1
		refuses(b, api.ErrCorrupt)
	}
	refuses(full(9), api.ErrCorrupt)
	refuses(freePage(3), api.ErrDown)
	for _, next := range []int{0, 1, 3} {
		p := begun(t, laid(t, head(4, 2, 7), freePage(0), freePage(next), freePage(0)))
		alloc(t, p, 2)
		if next > 0 {
			alloc(t, p, next)
		}
		alloc(t, p, 4)
	}
	// The free pages of the transaction are those that count.
	d := laid(t, head(4, 2, 7), full(1), freePage(0), full(3))
	p := begun(t, d)
	put(t, p, 2, 9)
	if n, code := p.Alloc(); n != 0 || code != api.ErrCorrupt {
		t.Errorf("Alloc = %d %v", n, code)
	}
	must(t, "Put", p.Put(2, freePage(0)))
	must(t, "Free", p.Free(1))
	down(d)
	alloc(t, p, 1)
	alloc(t, p, 2)
	alloc(t, p, 4)
}

func TestP9_2OtherPagers(t *testing.T) {
	d := laid(t, head(3, 0, 7), full(1), full(2))
	p, q := begun(t, d), begun(t, d)
	put(t, p, 1, 5)
	put(t, q, 1, 6)
	isPage(t, p, 1, full(5))
	isPage(t, q, 1, full(6))
	must(t, "Commit", p.Commit())
	isPage(t, q, 1, full(6))
	must(t, "Rollback", q.Rollback())
	isPage(t, q, 1, full(5))
	if b, _ := q.Get(1); !bytes.Equal(b, full(5)) || q.In() || p.In() {
		t.Errorf("Get = %v", b)
	}
}
