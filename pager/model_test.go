package pager_test

import (
	"bytes"
	"maps"
	"slices"
	"testing"

	"hindsight/api"
	"hindsight/pager"
	"hindsight/vdisk"
)

// pages is a state of the pager by its definition: the pages that are not free, and the free ones, the first one last.
type pages struct {
	count int
	used  map[int]byte
	free  []int
	meta  byte
}

// clone is the same state in new memory.
func (m pages) clone() pages {
	m.used, m.free = maps.Clone(m.used), slices.Clone(m.free)
	return m
}

// take is what Alloc does.
func (m *pages) take(most int) (int, api.Errno) {
	n := m.count
	if k := len(m.free); k > 0 {
		n, m.free = m.free[k-1], m.free[:k-1]
	} else if n == most {
		return 0, api.ErrFull
	} else {
		m.count++
	}
	m.used[n] = 0
	return n, api.OK
}

// give is what Free does.
func (m *pages) give(n int) {
	m.free = append(slices.DeleteFunc(m.free, func(k int) bool { return k == n }), n)
	delete(m.used, n)
}

// model is a pager with its savepoints and the state at Begin.
type model struct {
	now, begun pages
	in         bool
	saves      []pages
}

// end ends the transaction with a state.
func (m *model) end(s pages) { m.now, m.in, m.saves = s, false, nil }

// compare holds all that the pager shows against the model.
func compare(t *testing.T, p *pager.Pager, m *model) {
	t.Helper()
	if p.Pages() != m.now.count || p.In() != m.in || p.Meta() != metaOf(m.now.meta) {
		t.Fatalf("Pages %d, In %v, Meta %v, want %d %v %d", p.Pages(), p.In(), p.Meta()[0], m.now.count, m.in, m.now.meta)
	}
	for n, c := range m.now.used {
		if b, code := p.Get(n); code != api.OK || !bytes.Equal(b, full(c)) {
			t.Fatalf("Get(%d) = %v %v, want %d", n, b, code, c)
		}
	}
	next := 0
	for _, n := range m.now.free {
		if b, code := p.Get(n); code != api.OK || !bytes.Equal(b, freePage(next)) {
			t.Fatalf("Get(%d) = %v %v, want a free page ahead of %d", n, b, code, next)
		}
		next = n
	}
}

// player makes calls of a pager and of its model.
type player struct {
	t    *testing.T
	next chance
	d    *vdisk.Disk
	p    *pager.Pager
	m    *model
}

// same holds the error of a call against the one of the model.
func (g *player) same(what string, code, want api.Errno) bool {
	g.t.Helper()
	if code != want {
		g.t.Fatalf("%s = %v, want %v", what, code, want)
	}
	return code == api.OK
}

// needs is want if there is a transaction, otherwise ErrTx.
func (g *player) needs(want api.Errno) api.Errno {
	if !g.m.in {
		return api.ErrTx
	}
	return want
}

// page is a number of a page, mostly one that exists.
func (g *player) page() int { return g.next.below(g.m.now.count+2) - 1 }

// change makes a call that changes pages.
func (g *player) change() {
	m, page, c := &g.m.now, g.page(), byte(g.next.below(256))
	valid := g.needs(api.OK)
	if valid == api.OK && (page < 1 || page >= m.count) {
		valid = api.ErrArg
	}
	switch g.next.below(8) {
	case 0, 1:
		n, code := g.p.Alloc()
		want, wantCode := 0, api.ErrTx
		if g.m.in {
			want, wantCode = m.take(4096)
		}
		if g.same("Alloc", code, wantCode); n != want {
			g.t.Fatalf("Alloc = %d, want %d", n, want)
		}
	case 2, 3:
		if g.same("Free", g.p.Free(page), valid) {
			m.give(page)
		}
	case 4:
		if g.same("SetMeta", g.p.SetMeta(metaOf(c)), g.needs(api.OK)) {
			m.meta = c
		}
	default:
		if slices.Contains(m.free, page) {
			return
		}
		if g.same("Put", g.p.Put(page, full(c)), valid) {
			m.used[page] = c
		}
	}
}

// saving makes a call that is about savepoints.
func (g *player) saving() {
	m, n := g.m, g.next.below(5)
	valid := g.needs(api.OK)
	if valid == api.OK && (n < 1 || n > len(m.saves)) {
		valid = api.ErrSave
	}
	switch g.next.below(4) {
	case 0:
		if g.same("Back", g.p.Back(n), valid) {
			m.saves = m.saves[:n]
			m.now = m.saves[n-1].clone()
		}
	case 1:
		if g.same("Release", g.p.Release(n), valid) {
			m.saves = m.saves[:n-1]
		}
	default:
		want := g.needs(api.OK)
		if want == api.OK && len(m.saves) == 8 {
			want = api.ErrFull
		}
		s, code := g.p.Save()
		if g.same("Save", code, want) {
			m.saves = append(m.saves, m.now.clone())
			if s != len(m.saves) {
				g.t.Fatalf("Save = %d, want %d", s, len(m.saves))
			}
		}
	}
}

// ending makes a call that ends the transaction, or crashes the disk and opens it again.
func (g *player) ending() {
	m := g.m
	switch g.next.below(5) {
	case 0:
		if g.same("Rollback", g.p.Rollback(), g.needs(api.OK)) {
			m.end(m.begun)
		}
	case 1:
		if !m.in {
			m.begun = m.now
		}
		must(g.t, "Crash", g.d.Crash(nil))
		g.p = open(g.t, g.d)
		m.end(m.begun)
	default:
		if g.same("Commit", g.p.Commit(), g.needs(api.OK)) {
			m.end(m.now)
		}
	}
}

// step makes one call.
func (g *player) step() {
	switch g.next.below(12) {
	case 0:
		g.ending()
	case 1, 2:
		want := api.OK
		if g.m.in {
			want = api.ErrTx
		}
		if g.same("Begin", g.p.Begin(), want) {
			g.m.in, g.m.begun = true, g.m.now.clone()
		}
	case 3, 4:
		g.saving()
	default:
		g.change()
	}
}

// TestP9_6ByDefinition makes many calls; the result of each is that of the definition.
func TestP9_6ByDefinition(t *testing.T) {
	for seed := range 150 {
		d := disk(t, 65536)
		g := &player{t: t, next: chance(seed), d: d, p: open(t, d), m: &model{now: pages{count: 1, used: map[int]byte{}}}}
		for range 400 {
			g.step()
			compare(t, g.p, g.m)
		}
	}
}

// TestP9_6Errors lets Commit run out of room at random: then the state is that at Begin.
func TestP9_6Errors(t *testing.T) {
	failed := 0
	for seed := range 300 {
		next := chance(seed)
		d := laid(t, head(4, 3, 7), full(1), full(2), freePage(0))
		p := open(t, d)
		for range 4 {
			before := look(t, d)
			must(t, "Begin", p.Begin())
			for range 1 + next.below(6) {
				n, code := p.Alloc()
				must(t, "Alloc", code)
				put(t, p, n, byte(next.below(256)))
				if next.below(2) == 0 {
					must(t, "Free", p.Free(1+next.below(p.Pages()-1)))
				}
			}
			must(t, "Quota", d.Quota(1+next.below(100)))
			code := p.Commit()
			if code == api.OK {
				continue
			}
			failed++
			wants(t, "Commit", code, api.ErrDisk)
			if look(t, d) != before || look(t, d)[:len(view(p))] != view(p) || p.In() {
				t.Fatalf("the state is not that at Begin: %s", view(p))
			}
		}
	}
	if failed < 100 {
		t.Errorf("only %d commits failed", failed)
	}
}

// TestP9_7 allocates and frees pages in transactions that end in all ways: no page is allocated that already is.
func TestP9_7(t *testing.T) {
	for seed := range 100 {
		next := chance(seed)
		d := disk(t, 65536)
		p := open(t, d)
		sure := map[int]bool{} // the pages that are allocated and committed
		for range 12 {
			must(t, "Begin", p.Begin())
			used := maps.Clone(sure)
			for range 10 {
				work(t, &next, p, used)
				save(t, p, 1)
				inner := maps.Clone(used)
				work(t, &next, p, inner)
				if next.below(2) == 0 {
					must(t, "Back", p.Back(1))
				} else {
					used = inner
				}
				must(t, "Release", p.Release(1))
			}
			if next.below(3) == 0 {
				must(t, "Rollback", p.Rollback())
			} else {
				must(t, "Commit", p.Commit())
				sure = used
			}
			if next.below(3) == 0 {
				p = open(t, d)
			}
		}
	}
}

// work allocates and frees some pages, in part twice.
func work(t *testing.T, next *chance, p *pager.Pager, used map[int]bool) {
	t.Helper()
	for range next.below(8) {
		if next.below(2) == 0 && p.Pages() > 1 {
			n := 1 + next.below(p.Pages()-1)
			must(t, "Free", p.Free(n))
			delete(used, n)
			continue
		}
		n, code := p.Alloc()
		if code != api.OK || used[n] {
			t.Fatalf("Alloc = %d %v, allocated: %v", n, code, used[n])
		}
		used[n] = true
		if next.below(2) == 0 {
			put(t, p, n, byte(next.below(256)))
		}
	}
	if len(used) >= p.Pages() {
		t.Fatalf("%d pages are allocated of %d", len(used), p.Pages()-1)
	}
}

// TestP9_7Twice frees pages that are free already.
func TestP9_7Twice(t *testing.T) {
	for _, c := range []struct{ freed, want []int }{
		{[]int{1, 1}, []int{1, 4}},
		{[]int{1, 1, 1}, []int{1, 4}},
		{[]int{1, 2, 1}, []int{1, 2, 4}},
		{[]int{1, 2, 2}, []int{2, 1, 4}},
		{[]int{1, 2, 3, 2}, []int{2, 3, 1, 4}},
		{[]int{1, 2, 3, 1}, []int{1, 3, 2, 4}},
		{[]int{1, 2, 3, 3, 2, 1, 2}, []int{2, 1, 3, 4}},
	} {
		for _, zeros := range []bool{false, true} {
			for _, again := range []bool{false, true} {
				pages := [][]byte{head(4, 0, 7), full(1), full(2), full(3)}
				if zeros {
					pages = [][]byte{head(4, 0, 7)}
				}
				d := laid(t, pages...)
				p := begun(t, d)
				for _, n := range c.freed {
					must(t, "Free", p.Free(n))
					if again {
						must(t, "Commit", p.Commit())
						p = begun(t, d)
					}
				}
				for _, n := range c.want {
					alloc(t, p, n)
				}
			}
		}
	}
}

// TestP9_7Damaged frees pages of a file whose free pages form a circle, or of which one is overwritten.
func TestP9_7Damaged(t *testing.T) {
	p := begun(t, laid(t, head(4, 1, 7), freePage(2), freePage(1), freePage(0)))
	must(t, "Free", p.Free(3))
	alloc(t, p, 3)
	p = begun(t, laid(t, head(4, 1, 7), freePage(2), full(9), freePage(0)))
	must(t, "Free", p.Free(3))
	alloc(t, p, 3)
	alloc(t, p, 1)
	if n, code := p.Alloc(); n != 0 || code != api.ErrCorrupt {
		t.Errorf("Alloc = %d %v", n, code)
	}
	must(t, "Free", p.Free(2))
	alloc(t, p, 2)
	alloc(t, p, 4)
}
