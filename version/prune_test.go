package version_test

import (
	"math"
	"strings"
	"testing"

	"hindsight/api"
	"hindsight/version"
)

// prune prunes a store.
func prune(t *testing.T, s *version.Store, mark int64, want int) {
	t.Helper()
	if n, code := s.Prune(mark); n != want || code != api.OK {
		t.Errorf("Prune(%d) = %d %v, want %d", mark, n, code, want)
	}
}

func TestP17_4Prune(t *testing.T) {
	_, _, s := fresh(t, kept())
	m := model{table: kept()}
	prune(t, s, 5, 0)
	prune(t, s, math.MaxInt64, 0)
	for i := range int64(5) {
		must(t, "Insert", s.Insert(pair(i, strings.Repeat("x", int(i)*200)), i))
		must(t, "insert", m.insert(pair(i, strings.Repeat("x", int(i)*200)), i))
	}
	// Current versions are never removed.
	prune(t, s, math.MaxInt64, 0)
	for stamp := int64(5); stamp < 12; stamp++ {
		for i := range int64(5) {
			key := keyOf(t, kept(), pair(i, ""))
			switch {
			case i == 4 && stamp == 9:
				must(t, "Delete", s.Delete(key, stamp))
				must(t, "remove", m.remove(key, stamp))
			case stamp%(i+1) == 0:
				want := m.replace(key, pair(i, "y"), stamp)
				wants(t, "Replace", s.Replace(key, pair(i, "y"), stamp), want)
			}
		}
	}
	removed := 0
	for _, mark := range []int64{math.MinInt64, 4, 5, 5, 7, 6, -1, 8, 11, 12, math.MaxInt64} {
		n := m.prune(mark)
		removed += n
		prune(t, s, mark, n)
		check(t, s, m, 3, 12)
	}
	if removed < 12 {
		t.Errorf("%d versions are removed", removed)
	}
}

func TestP17_4PruneEdges(t *testing.T) {
	_, _, s := fresh(t, kept())
	key := keyOf(t, kept(), pair(1, ""))
	must(t, "Insert", s.Insert(pair(1, "a"), math.MinInt64))
	must(t, "Replace", s.Replace(key, pair(1, "b"), math.MinInt64+1))
	must(t, "Replace", s.Replace(key, pair(1, "c"), math.MaxInt64-1))
	prune(t, s, math.MinInt64, 0)
	prune(t, s, math.MinInt64+1, 1)
	prune(t, s, math.MaxInt64-2, 0)
	prune(t, s, math.MaxInt64-1, 1)
	has(t, s, view{Kind: 4}, row{pair(1, "c"), math.MaxInt64 - 1, version.Now})
}

// TestP17_4PruneMark holds that Prune changes the versions, and not what the entry says.
func TestP17_4PruneMark(t *testing.T) {
	p, e, _ := fresh(t, kept())
	e.Mark = 3
	s := store(t, p, e)
	must(t, "Insert", s.Insert(pair(1, "a"), 1))
	must(t, "Delete", s.Delete(keyOf(t, kept(), pair(1, "")), 9))
	prune(t, s, 8, 0)
	has(t, s, view{Kind: 1, A: 5}, row{pair(1, "a"), 1, 9})
	prune(t, s, 9, 1)
	has(t, s, view{Kind: 1, A: 5})
	wants(t, "May", s.May(view{Kind: 1, A: 3}), api.OK)
	wants(t, "May", s.May(view{Kind: 1, A: 2}), api.ErrPruned)
}

// TestP17_4PruneNothing prunes outside of a transaction, which only what there is to remove needs.
func TestP17_4PruneNothing(t *testing.T) {
	p, _, s := fresh(t, kept())
	must(t, "Insert", s.Insert(pair(1, "a"), 1))
	must(t, "Delete", s.Delete(keyOf(t, kept(), pair(1, "")), 9))
	must(t, "Commit", p.Commit())
	prune(t, s, 8, 0)
	if n, code := s.Prune(9); n != 0 || code != api.ErrTx {
		t.Errorf("Prune = %d %v", n, code)
	}
	has(t, s, view{Kind: 4}, row{pair(1, "a"), 1, 9})
}

func TestP17_4PrunePeriod(t *testing.T) {
	p, _, s := fresh(t, plain())
	must(t, "Insert", s.Insert(pair(1, "a"), 1))
	for range 2 {
		for _, mark := range []int64{math.MinInt64, 1, math.MaxInt64} {
			if n, code := s.Prune(mark); n != 0 || code != api.ErrPeriod {
				t.Errorf("Prune = %d %v", n, code)
			}
		}
		// Without a transaction as well.
		if p.In() {
			must(t, "Commit", p.Commit())
		}
	}
	has(t, s, view{}, row{pair(1, "a"), 1, version.Now})
}

// TestP17_7 prunes by each mark: what is visible at a stamp that is not below it stays, and of what is not visible there, no past version is left.
func TestP17_7(t *testing.T) {
	next := chance(7)
	for range 12 {
		p, _, s := fresh(t, kept())
		m := model{table: kept()}
		for stamp := int64(0); stamp < 20; stamp++ {
			change(t, s, &m, stamp, &next)
		}
		for mark := int64(-1); mark <= 21; mark++ {
			save, code := p.Save()
			must(t, "Save", code)
			before := m.clone()
			prune(t, s, mark, before.prune(mark))
			all, _ := s.Scan(view{Kind: 4})
			for _, r := range all {
				if r.To <= mark {
					t.Errorf("%v is left by Prune(%d)", r, mark)
				}
			}
			for stamp := mark; stamp <= 21; stamp++ {
				has(t, s, view{Kind: 1, A: stamp}, m.scan(func(r row) bool { return isAt(r, stamp) })...)
			}
			must(t, "Back", p.Back(save))
			must(t, "Release", p.Release(save))
		}
	}
}

func TestP17_4Drop(t *testing.T) {
	for _, drop := range []bool{false, true} {
		p, _, s := fresh(t, kept())
		used := p.Pages()
		for i := range int64(30) {
			l := pair(i, strings.Repeat("x", int(i)*90))
			must(t, "Insert", s.Insert(l, 5))
			must(t, "Replace", s.Replace(keyOf(t, kept(), l), l, 6))
		}
		if drop {
			must(t, "Drop", s.Drop())
		}
		// The pages that were not free are those of what is left.
		count := p.Pages()
		free := 0
		for {
			n, code := p.Alloc()
			must(t, "Alloc", code)
			if n >= count {
				break
			}
			free++
		}
		if drop != (free == count-1) || used >= count {
			t.Errorf("%d of %d pages are free", free, count)
		}
	}
	// A table without a history has one tree; the trees of other tables stay.
	p, _, s := fresh(t, plain())
	o := store(t, p, entry(t, p, kept()))
	must(t, "Insert", s.Insert(pair(1, "x"), 5))
	must(t, "Insert", o.Insert(pair(1, "y"), 5))
	must(t, "Replace", o.Replace(keyOf(t, kept(), pair(1, "")), pair(1, "z"), 6))
	must(t, "Drop", s.Drop())
	has(t, o, view{Kind: 4}, row{pair(1, "z"), 6, version.Now}, row{pair(1, "y"), 5, 6})
	wants(t, "Drop of what is dropped", s.Drop(), api.ErrCorrupt)
}

// TestP17_4DropFails has a history that cannot be dropped: the current tree is not dropped, either.
func TestP17_4DropFails(t *testing.T) {
	p, e, s := fresh(t, kept())
	must(t, "Insert", s.Insert(pair(1, "x"), 5))
	must(t, "Put", p.Put(e.History, make([]byte, 512)))
	before := pages(t, p)
	wants(t, "Drop", s.Drop(), api.ErrCorrupt)
	if pages(t, p) != before {
		t.Error("a Drop that failed changes something")
	}
	has(t, s, view{}, row{pair(1, "x"), 5, version.Now})
}
