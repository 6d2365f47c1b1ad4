package pager_test

import (
	"slices"
	"testing"

	"hindsight/api"
	"hindsight/journal"
	"hindsight/pager"
	"hindsight/vdisk"
)

// step is a Write or a Sync of a file.
type step struct {
	sync         bool
	file, sector int
	b            []byte
}

// commit is the steps by which pages are changed: those that the file had are saved ahead.
func commit(saved []journal.Entry, pages int, written []journal.Entry) []step {
	var l []step
	write := func(file, sector int, b []byte) {
		for i := range len(b) / 128 {
			l = append(l, step{file: file, sector: sector + i, b: b[128*i : 128*i+128]})
		}
	}
	sync := func(file int) { l = append(l, step{sync: true, file: file}) }
	for i, e := range saved {
		write(1, 1+5*i, append(number(e.Page), make([]byte, 124)...))
		write(1, 2+5*i, e.Image)
	}
	sync(1)
	h := append([]byte{72, 83, 74, 49}, number(len(saved))...)
	write(1, 0, append(append(h, number(pages)...), make([]byte, 116)...))
	sync(1)
	for _, e := range written {
		write(0, 4*e.Page, e.Image)
	}
	sync(0)
	write(1, 0, make([]byte, 128))
	sync(1)
	return l
}

// take makes the steps.
func take(t *testing.T, d *vdisk.Disk, l []step) {
	t.Helper()
	for _, s := range l {
		if s.sync {
			must(t, "Sync", d.Sync(s.file))
		} else {
			must(t, "Write", d.Write(s.file, s.sector, s.b))
		}
	}
}

// checkSteps holds Commit against the steps that it must take: it fails at each in turn, and the disk must be that after the steps before it, with all of its pending writes or none.
func checkSteps(t *testing.T, start func() (*vdisk.Disk, *pager.Pager), want []step) {
	t.Helper()
	for n := range len(want) + 1 {
		for _, keep := range [][]byte{nil, full(255)} {
			d, p := start()
			model, _ := start()
			before := d.Calls()
			d.Fail(n)
			code := p.Commit()
			if n < len(want) && (code != api.ErrDown || !d.Down()) || n == len(want) && (code != api.OK || d.Down()) || p.In() {
				t.Errorf("Commit = %v after %d steps of %d, down: %v", code, n, len(want), d.Down())
			}
			take(t, model, want[:n])
			if d.Calls() != before+n || d.Waits() != model.Waits() {
				t.Errorf("after %d steps: %d calls, Waits %d, want %d", n, d.Calls()-before, d.Waits(), model.Waits())
			}
			d.Crash(keep)
			model.Crash(keep)
			if show(d) != show(model) {
				t.Errorf("after %d steps, the disk is not that after the steps", n)
			}
		}
	}
}

func TestP9_4Steps(t *testing.T) {
	base := [][]byte{head(4, 3, 7), full(1), full(2), freePage(0)}
	for i, c := range []struct {
		change  func(p *pager.Pager)
		saved   []int // of the pages of base
		written []journal.Entry
	}{
		{func(p *pager.Pager) { put(t, p, 2, 9) }, []int{2}, []journal.Entry{{Page: 2, Image: full(9)}}},
		// The same bytes are a change, too.
		{func(p *pager.Pager) { put(t, p, 2, 2) }, []int{2}, []journal.Entry{{Page: 2, Image: full(2)}}},
		{func(p *pager.Pager) { p.SetMeta(metaOf(7)) }, []int{0}, []journal.Entry{{Page: 0, Image: base[0]}}},
		{func(p *pager.Pager) { put(t, p, 2, 9); p.SetMeta(metaOf(8)); put(t, p, 1, 6); put(t, p, 2, 8) }, []int{0, 1, 2},
			[]journal.Entry{{Page: 0, Image: head(4, 3, 8)}, {Page: 1, Image: full(6)}, {Page: 2, Image: full(8)}}},
		{func(p *pager.Pager) { alloc(t, p, 3) }, []int{0, 3}, []journal.Entry{{Page: 0, Image: head(4, 0, 7)}, {Page: 3, Image: make([]byte, 512)}}},
		{func(p *pager.Pager) { p.Free(1) }, []int{0, 1}, []journal.Entry{{Page: 0, Image: head(4, 1, 7)}, {Page: 1, Image: freePage(3)}}},
		{func(p *pager.Pager) { alloc(t, p, 3); p.Free(3) }, []int{0, 3}, []journal.Entry{{Page: 0, Image: base[0]}, {Page: 3, Image: freePage(0)}}},
		// Pages that did not exist are not saved.
		{func(p *pager.Pager) { alloc(t, p, 3); alloc(t, p, 4); alloc(t, p, 5); put(t, p, 5, 5) }, []int{0, 3},
			[]journal.Entry{{Page: 0, Image: head(6, 0, 7)}, {Page: 3, Image: make([]byte, 512)}, {Page: 4, Image: make([]byte, 512)}, {Page: 5, Image: full(5)}}},
		{func(p *pager.Pager) { alloc(t, p, 3); alloc(t, p, 4); p.Free(4) }, []int{0, 3},
			[]journal.Entry{{Page: 0, Image: head(5, 4, 7)}, {Page: 3, Image: make([]byte, 512)}, {Page: 4, Image: freePage(0)}}},
		{func(p *pager.Pager) { put(t, p, 1, 5); save(t, p, 1); put(t, p, 2, 5); p.SetMeta(metaOf(3)); p.Back(1) }, []int{1}, []journal.Entry{{Page: 1, Image: full(5)}}},
	} {
		for _, used := range []bool{false, true} {
			start := func() (*vdisk.Disk, *pager.Pager) {
				d := laid(t, base...)
				if used {
					journal.Save(d, []journal.Entry{{Page: 4, Image: full(4)}, {Page: 5, Image: full(4)}, {Page: 6, Image: full(4)}}, 9)
					journal.Clear(d)
					lay(t, d, append(slices.Clone(base), full(4), full(4))...)
				}
				p := begun(t, d)
				c.change(p)
				return d, p
			}
			var saved []journal.Entry
			for _, n := range c.saved {
				saved = append(saved, journal.Entry{Page: n, Image: base[n]})
			}
			t.Log(i, used)
			checkSteps(t, start, commit(saved, 4, c.written))
		}
	}
}

// TestP9_4NewFile commits the first pages of an empty disk.
func TestP9_4NewFile(t *testing.T) {
	start := func() (*vdisk.Disk, *pager.Pager) {
		d := disk(t, 100)
		p := begun(t, d)
		alloc(t, p, 1)
		return d, p
	}
	zeros := make([]byte, 512)
	checkSteps(t, start, commit([]journal.Entry{{Page: 0, Image: zeros}}, 1, []journal.Entry{{Page: 0, Image: head(2, 0, 0)}, {Page: 1, Image: zeros}}))
	meta := func() (*vdisk.Disk, *pager.Pager) {
		d := disk(t, 100)
		p := begun(t, d)
		must(t, "SetMeta", p.SetMeta(metaOf(3)))
		return d, p
	}
	checkSteps(t, meta, commit([]journal.Entry{{Page: 0, Image: zeros}}, 1, []journal.Entry{{Page: 0, Image: head(1, 0, 3)}}))
}

// TestP9_4Nothing commits transactions in which nothing was changed.
func TestP9_4Nothing(t *testing.T) {
	d := laid(t, head(4, 3, 7), full(1), full(2), freePage(0))
	p := open(t, d)
	wants(t, "Commit", p.Commit(), api.ErrTx)
	wants(t, "Rollback", p.Rollback(), api.ErrTx)
	before, calls := view(p), d.Calls()
	for _, change := range []func(){
		func() {},
		func() {
			p.Get(1)
			p.Put(0, full(1))
			p.Put(4, full(1))
			p.Put(1, full(1)[:511])
			p.Free(0)
			p.Free(4)
		},
		func() {
			save(t, p, 1)
			put(t, p, 1, 5)
			alloc(t, p, 3)
			p.Free(2)
			p.SetMeta(metaOf(1))
			p.Back(1)
		},
		func() { save(t, p, 1); p.Back(1); p.Release(1) },
		func() { down(d) },
	} {
		must(t, "Begin", p.Begin())
		change()
		must(t, "Commit", p.Commit())
		if p.In() || d.Calls() != calls {
			t.Errorf("In %v, %d calls", p.In(), d.Calls()-calls)
		}
		wants(t, "Commit", p.Commit(), api.ErrTx)
	}
	must(t, "Crash", d.Crash(nil))
	if view(p) != before {
		t.Errorf("the pager is %s", view(p))
	}
}

func TestP9_4Rollback(t *testing.T) {
	d := laid(t, head(4, 3, 7), full(1), full(2), freePage(0))
	p := open(t, d)
	before, calls := view(p), d.Calls()
	l := changes(t)
	for n := range len(l) + 1 {
		must(t, "Begin", p.Begin())
		for i, change := range l[:n] {
			change(p)
			save(t, p, i+1)
		}
		must(t, "Rollback", p.Rollback())
		if p.In() || view(p) != before || d.Calls() != calls {
			t.Errorf("In %v, %d calls: %s", p.In(), d.Calls()-calls, view(p))
		}
		wants(t, "Rollback", p.Rollback(), api.ErrTx)
		wants(t, "Put", p.Put(1, full(1)), api.ErrTx)
	}
	must(t, "Begin", p.Begin())
	put(t, p, 1, 9)
	down(d)
	must(t, "Rollback of a disk that is down", p.Rollback())
	must(t, "Crash", d.Crash(nil))
	if p.In() || view(p) != before {
		t.Errorf("In %v: %s", p.In(), view(p))
	}
}

// TestP9_4AfterCommit begins again: the state at Begin is then that of the last commit.
func TestP9_4AfterCommit(t *testing.T) {
	d := laid(t, head(4, 3, 7), full(1), full(2), freePage(0))
	p := open(t, d)
	for i, change := range changes(t) {
		must(t, "Begin", p.Begin())
		save(t, p, 1)
		change(p)
		want := view(p)
		must(t, "Commit", p.Commit())
		if p.In() || view(p) != want || view(open(t, d)) != want {
			t.Errorf("after commit %d: %s, want %s", i, view(p), want)
		}
		must(t, "Begin", p.Begin())
		if view(p) != want {
			t.Errorf("after commit %d and Begin: %s", i, view(p))
		}
		put(t, p, 1, 99)
		must(t, "Free", p.Free(2))
		must(t, "Rollback", p.Rollback())
		if view(p) != want {
			t.Errorf("after commit %d and Rollback: %s", i, view(p))
		}
		must(t, "Crash", d.Crash(nil))
		if view(open(t, d)) != want {
			t.Errorf("after commit %d and a crash: %s", i, view(open(t, d)))
		}
	}
}

// grown is the pager of a disk with 16 sectors, in a transaction that saves three pages and adds two.
func grown(t *testing.T) (*vdisk.Disk, *pager.Pager) {
	t.Helper()
	d := laid(t, head(4, 3, 7), full(1), full(2), freePage(0))
	p := begun(t, d)
	alloc(t, p, 3)
	alloc(t, p, 4)
	alloc(t, p, 5)
	put(t, p, 5, 9)
	put(t, p, 1, 8)
	save(t, p, 1)
	return d, p
}

// atBegin holds that the pager, and the one that is opened, are in the state at the Begin of grown.
func atBegin(t *testing.T, d *vdisk.Disk, p *pager.Pager) {
	t.Helper()
	want := view(open(t, laid(t, head(4, 3, 7), full(1), full(2), freePage(0))))
	if p.In() || view(p) != want || look(t, d) != want+" 3 4" {
		t.Errorf("In %v: %s", p.In(), view(p))
	}
	if _, _, hot, code := journal.Load(d); hot || code != api.OK {
		t.Errorf("Load = %v %v", hot, code)
	}
}

// TestP9_4NoRoom commits with every quota that is too small.
func TestP9_4NoRoom(t *testing.T) {
	// 6 pages, and a journal of 3 entries.
	for quota := 1; quota <= 24+16+1; quota++ {
		d, p := grown(t)
		must(t, "Quota", d.Quota(quota))
		if quota >= 24+16 {
			must(t, "Commit", p.Commit())
			continue
		}
		wants(t, "Commit without room", p.Commit(), api.ErrDisk)
		atBegin(t, d, p)
		wants(t, "Commit", p.Commit(), api.ErrTx)
		must(t, "Crash", d.Crash(nil))
		atBegin(t, d, p)
		// The pager can be used as before.
		must(t, "Begin", p.Begin())
		noSaves(t, p, 0)
		must(t, "Quota", d.Quota(100))
		alloc(t, p, 3)
		alloc(t, p, 4)
		put(t, p, 3, 5)
		must(t, "Commit", p.Commit())
		p = open(t, d)
		for i, want := range [][]byte{nil, full(1), full(2), full(5), make([]byte, 512)} {
			if i > 0 {
				isPage(t, p, i, want)
			}
		}
	}
}

// TestP9_4NoRoomAndDown lets the disk fail when the journal is restored: then that error is returned.
func TestP9_4NoRoomAndDown(t *testing.T) {
	for quota := 16; quota < 24+16; quota++ {
		for n, code := 0, api.ErrDown; code != api.ErrDisk; n++ {
			d, p := grown(t)
			must(t, "Quota", d.Quota(quota))
			must(t, "Fail", d.Fail(n))
			if code = p.Commit(); code != api.ErrDown && code != api.ErrDisk || d.Down() != (code == api.ErrDown) || n > 100 {
				t.Fatalf("Commit = %v after %d calls, down: %v", code, n, d.Down())
			}
			if p.In() || p.Pages() != 4 || p.Meta() != metaOf(7) {
				t.Errorf("In %v, Pages %d, Meta %v", p.In(), p.Pages(), p.Meta())
			}
			must(t, "Crash", d.Crash([]byte{byte(n), byte(quota)}))
			p = open(t, d)
			atBegin(t, d, p)
		}
	}
}

// TestP9_4OtherError has a journal that cannot be restored once there is no room to save the pages.
func TestP9_4OtherError(t *testing.T) {
	d, p := grown(t)
	h, _ := journal.Head(4096, 4)
	must(t, "Write", d.Write(1, 0, h))
	must(t, "Quota", d.Quota(16+5))
	wants(t, "Commit", p.Commit(), api.ErrCorrupt)
	if p.In() || p.Pages() != 4 || p.Meta() != metaOf(7) {
		t.Errorf("In %v, Pages %d, Meta %v", p.In(), p.Pages(), p.Meta())
	}
	isPage(t, p, 1, full(1))
	isPage(t, p, 3, freePage(0))
}

// TestP9_4Down commits on a disk that is down.
func TestP9_4Down(t *testing.T) {
	d, p := grown(t)
	down(d)
	wants(t, "Commit", p.Commit(), api.ErrDown)
	if p.In() || p.Pages() != 4 || p.Meta() != metaOf(7) {
		t.Errorf("In %v, Pages %d, Meta %v", p.In(), p.Pages(), p.Meta())
	}
	wants(t, "Begin", p.Begin(), api.ErrDown)
	must(t, "Crash", d.Crash(nil))
	atBegin(t, d, p)
	must(t, "Begin", p.Begin())
	noSaves(t, p, 0)
}
