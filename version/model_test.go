package version_test

import (
	"bytes"
	"testing"

	"hindsight/api"
	"hindsight/catalog"
	"hindsight/period"
	"hindsight/vdisk"
	"hindsight/version"
)

// change makes a next change of a store of kept and of a model, at a stamp, and holds the errors of both against each other.
func change(t *testing.T, s *version.Store, m *model, stamp int64, next *chance) {
	t.Helper()
	l := values{number(int64(next.below(8))), null}
	if next.below(5) > 0 {
		l[1] = text(next.content())
	}
	key := m.key(row{Values: l})
	switch next.below(8) {
	case 0, 1, 2:
		wants(t, "Insert", s.Insert(l, stamp), m.insert(l, stamp))
	case 3, 4, 5:
		wants(t, "Replace", s.Replace(key, l, stamp), m.replace(key, l, stamp))
	case 6:
		wants(t, "Delete", s.Delete(key, stamp), m.remove(key, stamp))
	case 7:
		other := m.key(row{Values: values{number(int64(next.below(8))), null}})
		wants(t, "Replace", s.Replace(other, l, stamp), m.replace(other, l, stamp))
	}
}

// TestP17_3Model holds random changes, at stamps that stay or increase, against the model, across transactions that are committed, rolled back, or interrupted by a crash.
func TestP17_3Model(t *testing.T) {
	d := disk(t)
	p := begun(t, d)
	e := entry(t, p, kept())
	s := store(t, p, e)
	must(t, "Commit", p.Commit())
	m := model{table: kept()}
	committed := m.clone()
	next := chance(1)
	stamp, most := int64(0), 0
	for range 150 {
		must(t, "Begin", p.Begin())
		for range next.below(10) {
			change(t, s, &m, stamp, &next)
			stamp += int64(next.below(3) / 2)
		}
		if next.below(10) == 0 {
			mark := stamp - int64(next.below(12))
			prune(t, s, mark, m.prune(mark))
		}
		check(t, s, m, stamp-4, stamp+1)
		most = max(most, len(m.rows))
		switch next.below(4) {
		case 0:
			must(t, "Rollback", p.Rollback())
			m = committed.clone()
		case 1:
			must(t, "Crash", d.Crash(bytes.Repeat([]byte{255}, 9)))
			p = open(t, d)
			m = committed.clone()
		case 2:
			must(t, "Commit", p.Commit())
			committed = m.clone()
			must(t, "Crash", d.Crash(nil))
			p = open(t, d)
		case 3:
			must(t, "Commit", p.Commit())
			committed = m.clone()
		}
		s = store(t, p, e)
		check(t, s, m, stamp-2, stamp)
	}
	if most < 40 {
		t.Errorf("there are at most %d versions", most)
	}
}

// TestP17_3Plain does the same for a table without a history.
func TestP17_3Plain(t *testing.T) {
	_, _, s := fresh(t, plain())
	m := model{table: plain()}
	next := chance(2)
	for stamp := range int64(300) {
		change(t, s, &m, stamp/3, &next)
		check(t, s, m, 0, 0)
	}
}

// TestP17_5 has the spans of the versions of each key be valid and disjoint, with the current one behind all others.
func TestP17_5(t *testing.T) {
	for seed := range 6 {
		_, _, s := fresh(t, kept())
		m := model{table: kept()}
		next := chance(seed)
		stamp, longest := int64(-9), 0
		for range 120 {
			change(t, s, &m, stamp, &next)
			stamp += int64(next.below(3) / 2)
			l, code := s.Scan(view{Kind: 4, A: stamp})
			must(t, "Scan", code)
			spans := map[int64][]period.Span{}
			// The past versions are ordered by their ends; the current one comes behind them here.
			for _, now := range []bool{false, true} {
				for _, r := range l {
					if a := r.Values[0].Int; (r.To == version.Now) == now {
						spans[a] = append(spans[a], period.Span{From: r.From, To: r.To})
					}
				}
			}
			for a, l := range spans {
				longest = max(longest, len(l))
				if !period.Apart(l) {
					t.Fatalf("the versions of %d are %v", a, l)
				}
			}
		}
		if longest < 4 {
			t.Errorf("there are at most %d versions of a key", longest)
		}
	}
}

// TestP17_6 keeps what was current after all changes with stamps up to each one, and has it be visible at that stamp for ever (P4).
func TestP17_6(t *testing.T) {
	for seed := range 6 {
		_, _, s := fresh(t, kept())
		m := model{table: kept()}
		next := chance(100 + seed)
		var current [][]row // after the changes of each stamp
		for stamp := range int64(40) {
			for range next.below(5) {
				change(t, s, &m, stamp, &next)
			}
			l, code := s.Scan(view{})
			must(t, "Scan", code)
			current = append(current, l)
		}
		for stamp, want := range current {
			l, code := s.Scan(view{Kind: 1, A: int64(stamp)})
			must(t, "Scan", code)
			// The current ones come first, and each part is ordered by keys; no key is in both.
			got := map[int64]row{}
			for _, r := range l {
				got[r.Values[0].Int] = r
			}
			if len(got) != len(want) || len(l) != len(want) {
				t.Errorf("at %d there are %d rows, want %d", stamp, len(l), len(want))
			}
			for _, r := range want {
				if g := got[r.Values[0].Int]; !same(row{r.Values, r.From, g.To}, g) {
					t.Errorf("at %d there is %v, want %v", stamp, g, r)
				}
			}
		}
	}
}

// TestP2 has what was stored read back after a Commit and opening again, for values of all kinds and lengths.
func TestP2(t *testing.T) {
	for _, n := range []int{0, 1, 100, 105, 106, 107, 120, 121, 500, 508, 4000, 8000, len(longest)} {
		for _, stamp := range []int64{-1 << 63, -1, 0, 1, 255, 1<<63 - 2} {
			d := disk(t)
			p := begun(t, d)
			e := entry(t, p, kept())
			l := pair(7, string(bytes.Repeat([]byte{0, 200}, n)[:n]))
			must(t, "Insert", store(t, p, e).Insert(l, stamp))
			must(t, "Commit", p.Commit())
			must(t, "Crash", d.Crash(nil))
			has(t, store(t, open(t, d), e), view{Kind: 4}, row{l, stamp, version.Now})
		}
	}
}

// committed is a disk with a store of kept, its entry, and its model.
func committed(t *testing.T) (*vdisk.Disk, catalog.Entry, model) {
	t.Helper()
	d := disk(t)
	p := begun(t, d)
	e := entry(t, p, kept())
	m := model{table: kept()}
	next := chance(3)
	for stamp := range int64(9) {
		change(t, store(t, p, e), &m, stamp, &next)
	}
	must(t, "Commit", p.Commit())
	return d, e, m
}

// TestP5 crashes at calls of a Commit that changes a store: the state is that before it, or that after it; the latter if Commit returned OK.
func TestP5(t *testing.T) {
	seen := map[bool]int{}
	for n, code := 0, api.ErrDown; code != api.OK; n++ {
		for _, keep := range []byte{0, 255, 0x55, 0x3c} {
			d, e, before := committed(t)
			p := begun(t, d)
			s, after := store(t, p, e), before.clone()
			next := chance(4)
			for stamp := range int64(6) {
				change(t, s, &after, 10+stamp, &next)
			}
			must(t, "Insert", s.Insert(pair(99, "new"), 20))
			must(t, "insert", after.insert(pair(99, "new"), 20))
			must(t, "Fail", d.Fail(n))
			code = p.Commit()
			must(t, "Crash", d.Crash(bytes.Repeat([]byte{keep}, 200)))
			s = store(t, open(t, d), e)
			_, done, err := s.Get(keyOf(t, kept(), pair(99, "")))
			must(t, "Get", err)
			if seen[done]++; done {
				before = after
			}
			check(t, s, before, 7, 12)
			if code == api.OK && !done {
				t.Fatal("the state is that before a Commit that returned OK")
			}
		}
	}
	if seen[false] == 0 || seen[true] == 0 {
		t.Errorf("%v", seen)
	}
}
