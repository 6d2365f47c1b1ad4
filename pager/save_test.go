package pager_test

import (
	"math"
	"testing"

	"hindsight/api"
	"hindsight/pager"
)

func TestP9_3Numbers(t *testing.T) {
	d := laid(t, head(3, 0, 7), full(1), full(2))
	p := open(t, d)
	for range 2 {
		if n, code := p.Save(); n != 0 || code != api.ErrTx {
			t.Errorf("Save = %d %v", n, code)
		}
		for _, n := range []int{0, 1, -1, 9} {
			wants(t, "Back", p.Back(n), api.ErrTx)
			wants(t, "Release", p.Release(n), api.ErrTx)
		}
		// The savepoints end with the transaction.
		must(t, "Begin", p.Begin())
		noSaves(t, p, 0)
		for n := 1; n <= 8; n++ {
			save(t, p, n)
			noSaves(t, p, n)
		}
		for range 2 {
			if n, code := p.Save(); n != 0 || code != api.ErrFull {
				t.Errorf("Save = %d %v", n, code)
			}
		}
		noSaves(t, p, 8)
		must(t, "Commit", p.Commit())
	}
	must(t, "Begin", p.Begin())
	save(t, p, 1)
	must(t, "Rollback", p.Rollback())
	must(t, "Begin", p.Begin())
	noSaves(t, p, 0)
	save(t, p, 1)
}

// noSaves holds that there are no savepoints beside the first ones.
func noSaves(t *testing.T, p *pager.Pager, count int) {
	t.Helper()
	for _, n := range []int{0, -1, count + 1, count + 2, 8 + 1, math.MinInt, math.MaxInt} {
		wants(t, "Back", p.Back(n), api.ErrSave)
		wants(t, "Release", p.Release(n), api.ErrSave)
	}
}

func TestP9_3AfterBackAndRelease(t *testing.T) {
	for n := 1; n <= 8; n++ {
		p := begun(t, laid(t, head(3, 0, 7), full(1), full(2)))
		for i := 1; i <= 8; i++ {
			save(t, p, i)
		}
		// The savepoint itself is kept, however often one goes back to it.
		for range 3 {
			must(t, "Back", p.Back(n))
			noSaves(t, p, n)
		}
		if n < 8 {
			save(t, p, n+1)
			noSaves(t, p, n+1)
		}
		must(t, "Release", p.Release(n))
		noSaves(t, p, n-1)
		wants(t, "Release once more", p.Release(n), api.ErrSave)
		save(t, p, n)
		if n > 1 {
			must(t, "Back", p.Back(n-1))
		}
		must(t, "Release", p.Release(1))
		noSaves(t, p, 0)
		save(t, p, 1)
	}
}

// changes are calls that change something, each of another kind.
func changes(t *testing.T) []func(p *pager.Pager) {
	return []func(p *pager.Pager){
		func(p *pager.Pager) { put(t, p, 1, 50) },
		func(p *pager.Pager) { alloc(t, p, 3) }, // a free one
		func(p *pager.Pager) { must(t, "SetMeta", p.SetMeta(metaOf(51))) },
		func(p *pager.Pager) { must(t, "Free", p.Free(2)) },
		func(p *pager.Pager) { put(t, p, 3, 52) },
		func(p *pager.Pager) { alloc(t, p, 2); alloc(t, p, 4) }, // an additional one
		func(p *pager.Pager) { put(t, p, 1, 53); put(t, p, 4, 54) },
		func(p *pager.Pager) { must(t, "Free", p.Free(4)); must(t, "SetMeta", p.SetMeta(metaOf(55))) },
	}
}

func TestP9_3States(t *testing.T) {
	l := changes(t)
	for n := 1; n <= len(l); n++ {
		d := laid(t, head(4, 3, 7), full(1), full(2), freePage(0))
		p := begun(t, d)
		var want []string
		for i, change := range l {
			want = append(want, view(p))
			save(t, p, i+1)
			if view(p) != want[i] {
				t.Error("Save changes something")
			}
			change(p)
		}
		last := view(p)
		must(t, "Release", p.Release(len(l)))
		if view(p) != last {
			t.Error("Release changes something")
		}
		if n == len(l) {
			continue
		}
		must(t, "Back", p.Back(n))
		for range 2 {
			if view(p) != want[n-1] {
				t.Errorf("after Back(%d): %s", n, view(p))
			}
			// What is made once more is what it was.
			for _, change := range l[n-1:] {
				change(p)
			}
			if view(p) != last {
				t.Errorf("after Back(%d) and the changes: %s", n, view(p))
			}
			must(t, "Back", p.Back(n))
		}
		must(t, "Back", p.Back(1))
		if view(p) != want[0] {
			t.Errorf("after Back(1): %s", view(p))
		}
		calls := d.Calls()
		must(t, "Commit", p.Commit())
		if d.Calls() != calls || view(p) != want[0] {
			t.Errorf("Commit after Back(1) makes %d calls", d.Calls()-calls)
		}
	}
}

func TestP9_3ReleaseKeepsChanges(t *testing.T) {
	d := laid(t, head(3, 0, 7), full(1), full(2))
	p := begun(t, d)
	save(t, p, 1)
	put(t, p, 1, 5)
	save(t, p, 2)
	put(t, p, 2, 6)
	must(t, "Release", p.Release(1))
	isPage(t, p, 1, full(5))
	isPage(t, p, 2, full(6))
	must(t, "Commit", p.Commit())
	isOnDisk(t, d, 1, full(5))
	isOnDisk(t, d, 2, full(6))
}

// TestP9_3BackKeepsEarlierChanges commits what was changed ahead of a savepoint, and no more.
func TestP9_3BackKeepsEarlierChanges(t *testing.T) {
	d := laid(t, head(3, 0, 7), full(1), full(2))
	p := begun(t, d)
	put(t, p, 1, 5)
	save(t, p, 1)
	put(t, p, 1, 6)
	put(t, p, 2, 6)
	alloc(t, p, 3)
	must(t, "Back", p.Back(1))
	// A change after Back does not change the savepoint.
	put(t, p, 1, 7)
	must(t, "Back", p.Back(1))
	isPage(t, p, 1, full(5))
	calls := d.Calls()
	must(t, "Commit", p.Commit())
	isOnDisk(t, d, 0, head(3, 0, 7))
	isOnDisk(t, d, 1, full(5))
	isOnDisk(t, d, 2, full(2))
	// One page is saved and written: 5 + 4 writes, the header and its clearing, and 4 calls of Sync.
	if d.Calls()-calls != 15 || p.Pages() != 3 {
		t.Errorf("%d calls, Pages %d", d.Calls()-calls, p.Pages())
	}
}
