package pager_test

import (
	"testing"

	"hindsight/api"
	"hindsight/pager"
	"hindsight/vdisk"
)

// transaction is a change of the pages of a disk.
type transaction struct {
	start  func() *vdisk.Disk
	change func(p *pager.Pager)
}

// transactions change pages in all ways.
func transactions(t *testing.T) []transaction {
	pages := func() *vdisk.Disk {
		d := laid(t, head(4, 3, 7), full(1), full(2), freePage(0))
		p := begun(t, d)
		put(t, p, 2, 3)
		must(t, "Commit", p.Commit())
		return d
	}
	return []transaction{
		{func() *vdisk.Disk { return disk(t, 100) }, func(p *pager.Pager) { alloc(t, p, 1); put(t, p, 1, 5) }},
		{pages, func(p *pager.Pager) { put(t, p, 1, 5) }},
		{pages, func(p *pager.Pager) { must(t, "SetMeta", p.SetMeta(metaOf(5))) }},
		{pages, func(p *pager.Pager) { put(t, p, 1, 5); must(t, "Free", p.Free(2)) }},
		{pages, func(p *pager.Pager) { alloc(t, p, 3); alloc(t, p, 4); put(t, p, 4, 5); put(t, p, 3, 6) }},
	}
}

// committed are what is seen of the disk ahead of a transaction and after it.
func (c transaction) committed(t *testing.T) (string, string) {
	t.Helper()
	d := c.start()
	before := look(t, d)
	p := begun(t, d)
	c.change(p)
	must(t, "Commit", p.Commit())
	return before, look(t, d)
}

// crashed is the disk that fails after so many calls of the Commit, and then crashes; keep is made of the number of the pending writes.
func (c transaction) crashed(t *testing.T, calls int, keep func(waits int) []byte) (*vdisk.Disk, api.Errno) {
	t.Helper()
	d := c.start()
	p := begun(t, d)
	c.change(p)
	must(t, "Fail", d.Fail(calls))
	code := p.Commit()
	if code != api.OK && code != api.ErrDown {
		t.Fatalf("Commit = %v after %d calls", code, calls)
	}
	must(t, "Crash", d.Crash(keep(d.Waits())))
	return d, code
}

// TestP9_5 crashes at every call of a Commit, with every choice of the pending writes that are at most 10.
func TestP9_5(t *testing.T) {
	for i, c := range transactions(t) {
		before, after := c.committed(t)
		if before == after {
			t.Fatalf("transaction %d changes nothing", i)
		}
		seen := map[bool]bool{}
		for n, code := 0, api.ErrDown; code != api.OK; n++ {
			choices := 1
			for choice := 0; choice < choices; choice++ {
				var d *vdisk.Disk
				d, code = c.crashed(t, n, func(waits int) []byte {
					choices = 1 << min(waits, 10)
					// Beyond the first 10 writes, all are kept, or none.
					rest := byte(255 * (choice % 2))
					return []byte{byte(choice), byte(choice>>8) | rest<<2, rest, rest}
				})
				seen[isEither(t, d, before, after, code == api.OK)] = true
				if t.Failed() {
					t.Fatalf("transaction %d, after %d calls, choice %d", i, n, choice)
				}
			}
		}
		if !seen[false] || !seen[true] {
			t.Errorf("transaction %d is never kept, or always", i)
		}
	}
}

// isEither holds that a disk is as before a transaction, or as after it, and reports which.
func isEither(t *testing.T, d *vdisk.Disk, before, after string, done bool) bool {
	t.Helper()
	s := look(t, d)
	if s != after && (done || s != before) {
		t.Errorf("after the crash, the pages are neither as before nor as after: %s", s)
	}
	return s == after
}

// patterns are choices of the pending writes.
func patterns() []byte { return []byte{0, 255, 0x55, 0xaa, 0x3c} }

// repeat is a choice that repeats 8 bits.
func repeat(c byte) []byte { return full(c)[:20] }

// TestP9_5Open crashes at every call of a Commit, and then at every call of the Open behind it, and opens once more.
func TestP9_5Open(t *testing.T) {
	for i, c := range transactions(t) {
		before, after := c.committed(t)
		for n, code := 0, api.ErrDown; code != api.OK; n++ {
			for _, first := range patterns() {
				keep := func(int) []byte { return repeat(first) }
				var d *vdisk.Disk
				d, code = c.crashed(t, n, keep)
				want := look(t, d)
				for _, second := range patterns() {
					checkOpen(t, func() *vdisk.Disk { d, _ := c.crashed(t, n, keep); return d }, second, want)
				}
				if want != before && want != after || t.Failed() {
					t.Fatalf("transaction %d, after %d calls, choice %d: %s", i, n, first, want)
				}
			}
		}
	}
}

// checkOpen lets each call of Open fail in turn; the one behind the crash must see what the first one would have seen.
func checkOpen(t *testing.T, start func() *vdisk.Disk, choice byte, want string) {
	t.Helper()
	for m, code := 0, api.ErrDown; code != api.OK; m++ {
		d := start()
		must(t, "Fail", d.Fail(m))
		var p *pager.Pager
		if p, code = pager.Open(d); code != api.OK && code != api.ErrDown || (p == nil) != (code != api.OK) {
			t.Fatalf("Open = %v %v after %d calls", p, code, m)
		}
		must(t, "Crash", d.Crash(repeat(choice)))
		if s := look(t, d); s != want {
			t.Fatalf("after the crash of Open, the pages are %s, want %s", s, want)
		}
	}
}

// TestP9_5Commits crashes at every call of the second of two commits of a pager.
func TestP9_5Commits(t *testing.T) {
	l := transactions(t)
	twice := func(calls int) (*vdisk.Disk, string, api.Errno) {
		d := l[1].start()
		p := begun(t, d)
		l[1].change(p)
		must(t, "Commit", p.Commit())
		first := look(t, d)
		must(t, "Begin", p.Begin())
		l[4].change(p)
		must(t, "Fail", d.Fail(calls))
		return d, first, p.Commit()
	}
	d, _, code := twice(1000)
	must(t, "Commit", code)
	second := look(t, d)
	for n, code := 0, api.ErrDown; code != api.OK; n++ {
		for _, choice := range patterns() {
			var d *vdisk.Disk
			var first string
			d, first, code = twice(n)
			must(t, "Crash", d.Crash(repeat(choice)))
			isEither(t, d, first, second, code == api.OK)
		}
	}
}

// TestP9_5Begun crashes in a transaction that is not committed.
func TestP9_5Begun(t *testing.T) {
	for _, c := range transactions(t) {
		d := c.start()
		before := look(t, d)
		c.change(begun(t, d))
		must(t, "Crash", d.Crash(repeat(255)))
		if s := look(t, d); s != before {
			t.Errorf("after the crash, the pages are %s, want %s", s, before)
		}
	}
}
