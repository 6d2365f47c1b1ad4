package version_test

import (
	"math"
	"slices"
	"strings"
	"testing"

	"hindsight/api"
	"hindsight/schema"
	"hindsight/version"
)

// longest is a text that makes a row of kept, with an integer from 0 to 63, as long as it can be: 1 byte for the number of values, 2 for the integer, 3 ahead of the text.
var longest = strings.Repeat("x", 8184-6)

func TestP17_2Insert(t *testing.T) {
	for _, x := range []schema.Table{plain(), kept()} {
		_, _, s := fresh(t, x)
		m := model{table: x}
		for i, stamp := range []int64{5, 0, -1, math.MinInt64, math.MinInt64 + 1, math.MaxInt64 - 1, 7, 7} {
			for _, l := range []values{pair(int64(-i), "x"), {number(int64(i) + 9), null}, pair(int64(100*i+1000), strings.Repeat("\x00", 300*i))} {
				must(t, "Insert", s.Insert(l, stamp))
				must(t, "insert", m.insert(l, stamp))
			}
			check(t, s, m, 4, 7)
		}
	}
}

func TestP17_2InsertErrors(t *testing.T) {
	p, _, s := fresh(t, kept())
	there := row{Values: pair(1, "x"), From: 5, To: version.Now}
	must(t, "Insert", s.Insert(there.Values, 5))
	before := pages(t, p)
	for _, c := range []struct {
		l    values
		want api.Errno
	}{
		{nil, api.ErrArg}, {values{number(1)}, api.ErrArg}, {append(pair(1, "x"), null), api.ErrArg}, {make(values, 99), api.ErrArg},
		{values{{Kind: 9}, text("x")}, api.ErrForm}, {values{number(1), {Kind: api.Text, Int: 1}}, api.ErrForm},
		{values{null, text("x")}, api.ErrNull}, {values{text("x"), text("x")}, api.ErrType}, {values{number(1), number(1)}, api.ErrType},
		{pair(1, "x"), api.ErrUnique}, {pair(1, "y"), api.ErrUnique}, {values{number(1), null}, api.ErrUnique},
		// One version with the key is told ahead of a row that is too long.
		{pair(1, longest+"x"), api.ErrUnique}, {pair(1, strings.Repeat("x", 9000)), api.ErrUnique},
		{pair(2, longest+"x"), api.ErrLong}, {pair(2, strings.Repeat("x", 8188)), api.ErrLong}, {pair(2, strings.Repeat("x", 1<<20)), api.ErrLong}, {pair(64, longest), api.ErrLong},
	} {
		for _, stamp := range []int64{5, 4, 6, math.MinInt64, math.MaxInt64} {
			wants(t, "Insert", s.Insert(c.l, stamp), c.want)
		}
	}
	if pages(t, p) != before {
		t.Error("an error changes something")
	}
	has(t, s, view{Kind: 4}, there)
	// The period and the length of the key are held against the table, too.
	_, _, s = fresh(t, booked())
	wants(t, "Insert", s.Insert(values{number(5), text(""), blob(""), number(5)}, 5), api.ErrEmpty)
	wants(t, "Insert", s.Insert(values{number(5), text(strings.Repeat("x", 66)), blob(""), number(6)}, 5), api.ErrLong)
	must(t, "Insert", s.Insert(values{number(5), text(strings.Repeat("x", 65)), blob(""), number(6)}, 5))
}

func TestP17_2Longest(t *testing.T) {
	for _, x := range []schema.Table{plain(), kept()} {
		_, _, s := fresh(t, x)
		key := keyOf(t, x, pair(63, ""))
		wants(t, "Insert", s.Insert(pair(63, longest+"x"), 5), api.ErrLong)
		must(t, "Insert", s.Insert(pair(63, longest), 5))
		wants(t, "Replace", s.Replace(key, pair(63, longest+"y"), 6), api.ErrLong)
		long := strings.Repeat("y", len(longest))
		must(t, "Replace", s.Replace(key, pair(63, long), 6))
		holds(t, s, key, &row{Values: pair(63, long), From: 6, To: version.Now})
		must(t, "Delete", s.Delete(key, 7))
		if x.Versioned {
			has(t, s, view{Kind: 4}, row{Values: pair(63, longest), From: 5, To: 6}, row{Values: pair(63, long), From: 6, To: 7})
		}
		has(t, s, view{})
	}
}

func TestP17_2Replace(t *testing.T) {
	for _, x := range []schema.Table{plain(), kept()} {
		_, _, s := fresh(t, x)
		m := model{table: x}
		key := keyOf(t, x, pair(3, ""))
		must(t, "Insert", s.Insert(pair(2, "other"), 4))
		must(t, "insert", m.insert(pair(2, "other"), 4))
		must(t, "Insert", s.Insert(pair(3, "first"), -2))
		must(t, "insert", m.insert(pair(3, "first"), -2))
		for i, stamp := range []int64{-2, -2, -1, 3, 3, 3, 4, 9, 9} {
			for _, l := range []values{pair(3, strings.Repeat("x", i*130)), {number(3), null}} {
				must(t, "Replace", s.Replace(key, l, stamp))
				must(t, "replace", m.replace(key, l, stamp))
				check(t, s, m, -3, 10)
			}
		}
		// The same values are a version of their own.
		must(t, "Replace", s.Replace(key, values{number(3), null}, 10))
		must(t, "replace", m.replace(key, values{number(3), null}, 10))
		check(t, s, m, 8, 11)
	}
}

func TestP17_2ReplaceErrors(t *testing.T) {
	for _, x := range []schema.Table{plain(), kept()} {
		replaceErrors(t, x)
	}
}

// replaceErrors holds the errors of Replace in a table that is plain or kept.
func replaceErrors(t *testing.T, x schema.Table) {
	p, _, s := fresh(t, x)
	must(t, "Insert", s.Insert(pair(1, "x"), 5))
	must(t, "Insert", s.Insert(pair(2, "gone"), 5))
	key, gone := keyOf(t, x, pair(1, "")), keyOf(t, x, pair(2, ""))
	must(t, "Delete", s.Delete(gone, 6))
	before := pages(t, p)
	none := [][]byte{nil, {}, {16}, gone, key[1:], key[:8], append(slices.Clone(key), 0), make([]byte, 200)}
	for _, stamp := range []int64{math.MinInt64, 4, 5, 6, math.MaxInt64} {
		for _, k := range append(none, key) {
			// The error of Check is told ahead of all others.
			wants(t, "Replace", s.Replace(k, nil, stamp), api.ErrArg)
			wants(t, "Replace", s.Replace(k, values{null, {Kind: 9}}, stamp), api.ErrNull)
			wants(t, "Replace", s.Replace(k, values{number(1), number(1)}, stamp), api.ErrType)
		}
		for _, k := range none {
			for _, l := range []values{pair(1, "y"), pair(2, "y"), pair(3, longest+"x")} {
				wants(t, "Replace", s.Replace(k, l, stamp), api.ErrNone)
			}
		}
		wants(t, "Replace", s.Replace(key, pair(2, "y"), stamp), api.ErrArg)
		wants(t, "Replace", s.Replace(key, pair(3, longest+"x"), stamp), api.ErrArg)
	}
	for _, stamp := range []int64{math.MinInt64, -5, 0, 4} {
		wants(t, "Replace", s.Replace(key, pair(1, "y"), stamp), api.ErrState)
		wants(t, "Replace", s.Replace(key, pair(1, longest+"x"), stamp), api.ErrState)
	}
	for _, stamp := range []int64{5, 6, math.MaxInt64} {
		wants(t, "Replace", s.Replace(key, pair(1, longest+"x"), stamp), api.ErrLong)
	}
	if pages(t, p) != before {
		t.Error("an error changes something")
	}
}

func TestP17_2Delete(t *testing.T) {
	for _, x := range []schema.Table{plain(), kept()} {
		p, _, s := fresh(t, x)
		m := model{table: x}
		for i := range int64(6) {
			must(t, "Insert", s.Insert(pair(i, strings.Repeat("x", int(i)*100)), i))
			must(t, "insert", m.insert(pair(i, strings.Repeat("x", int(i)*100)), i))
		}
		for _, k := range [][]byte{nil, {}, {16}, keyOf(t, x, pair(9, "")), make([]byte, 200)} {
			for _, stamp := range []int64{math.MinInt64, 0, math.MaxInt64} {
				wants(t, "Delete", s.Delete(k, stamp), api.ErrNone)
			}
		}
		before := pages(t, p)
		for i := range int64(6) {
			key := keyOf(t, x, pair(i, ""))
			for _, stamp := range []int64{math.MinInt64, -1, i - 1} {
				wants(t, "Delete", s.Delete(key, stamp), api.ErrState)
			}
		}
		if pages(t, p) != before {
			t.Error("an error changes something")
		}
		for i := range int64(6) {
			key := keyOf(t, x, pair(i, ""))
			must(t, "Delete", s.Delete(key, i+i%3))
			must(t, "remove", m.remove(key, i+i%3))
			wants(t, "Delete", s.Delete(key, i+i%3), api.ErrNone)
			wants(t, "Replace", s.Replace(key, pair(i, "y"), i+9), api.ErrNone)
			check(t, s, m, -1, 8)
		}
		has(t, s, view{})
	}
}

// TestP17_2EqualStamps has a row changed several times at one stamp: only what it was after all of them is a version.
func TestP17_2EqualStamps(t *testing.T) {
	for _, stamp := range []int64{math.MinInt64, 0, 5, math.MaxInt64 - 2} {
		_, _, s := fresh(t, kept())
		key := keyOf(t, kept(), pair(1, ""))
		for range 3 {
			must(t, "Insert", s.Insert(pair(1, "a"), stamp))
			must(t, "Replace", s.Replace(key, pair(1, "b"), stamp))
			must(t, "Delete", s.Delete(key, stamp))
			has(t, s, view{Kind: 4})
		}
		must(t, "Insert", s.Insert(pair(1, "c"), stamp))
		must(t, "Replace", s.Replace(key, pair(1, "d"), stamp))
		for range 3 {
			must(t, "Delete", s.Delete(key, stamp+1))
			must(t, "Insert", s.Insert(pair(1, "e"), stamp+1))
			must(t, "Replace", s.Replace(key, pair(1, "f"), stamp+1))
		}
		past, now := row{Values: pair(1, "d"), From: stamp, To: stamp + 1}, row{Values: pair(1, "f"), From: stamp + 1, To: version.Now}
		has(t, s, view{Kind: 4}, now, past)
		has(t, s, view{Kind: 1, A: stamp}, past)
		has(t, s, view{Kind: 1, A: stamp + 1}, now)
	}
}

// TestP17_2Backwards inserts a row at a stamp below that at which it was deleted: Insert names no error for it.
func TestP17_2Backwards(t *testing.T) {
	_, _, s := fresh(t, kept())
	key := keyOf(t, kept(), pair(1, ""))
	must(t, "Insert", s.Insert(pair(1, "a"), 5))
	must(t, "Delete", s.Delete(key, 9))
	must(t, "Insert", s.Insert(pair(1, "b"), 3))
	now, past := row{pair(1, "b"), 3, version.Now}, row{pair(1, "a"), 5, 9}
	has(t, s, view{Kind: 4}, now, past)
	has(t, s, view{Kind: 1, A: 7}, now, past)
	has(t, s, view{Kind: 1, A: 4}, now)
	// There is one past version for each key and To.
	must(t, "Delete", s.Delete(key, 9))
	has(t, s, view{Kind: 4}, row{pair(1, "b"), 3, 9})
}

// TestP17_2Extremes has the least stamp and the greatest ones.
func TestP17_2Extremes(t *testing.T) {
	_, _, s := fresh(t, kept())
	key := keyOf(t, kept(), pair(1, ""))
	must(t, "Insert", s.Insert(pair(1, "a"), math.MinInt64))
	must(t, "Replace", s.Replace(key, pair(1, "b"), math.MinInt64+1))
	must(t, "Replace", s.Replace(key, pair(1, "c"), math.MaxInt64-1))
	a, b, c := row{pair(1, "a"), math.MinInt64, math.MinInt64 + 1}, row{pair(1, "b"), math.MinInt64 + 1, math.MaxInt64 - 1}, row{pair(1, "c"), math.MaxInt64 - 1, version.Now}
	has(t, s, view{Kind: 4}, c, a, b)
	for stamp, want := range map[int64]row{math.MinInt64: a, math.MinInt64 + 1: b, 0: b, math.MaxInt64 - 2: b, math.MaxInt64 - 1: c, math.MaxInt64: c} {
		has(t, s, view{Kind: 1, A: stamp}, want)
		has(t, s, view{Kind: 3, A: stamp, B: stamp}, want)
		has(t, s, view{Kind: 2, A: stamp, B: stamp})
	}
	has(t, s, view{Kind: 2, A: math.MinInt64, B: math.MinInt64 + 1}, a)
	has(t, s, view{Kind: 2, A: math.MinInt64, B: math.MaxInt64 - 1}, a, b)
	has(t, s, view{Kind: 2, A: math.MinInt64, B: math.MaxInt64}, c, a, b)
	has(t, s, view{Kind: 3, A: math.MinInt64 + 1, B: math.MaxInt64 - 1}, c, b)
	has(t, s, view{Kind: 3, A: math.MaxInt64, B: math.MinInt64})
	must(t, "Delete", s.Delete(key, math.MaxInt64-1))
	has(t, s, view{Kind: 4}, a, b)
}

// TestP17_2Transaction makes changes outside of a transaction.
func TestP17_2Transaction(t *testing.T) {
	d := disk(t)
	p := begun(t, d)
	s := store(t, p, entry(t, p, kept()))
	must(t, "Insert", s.Insert(pair(1, "x"), 5))
	key := keyOf(t, kept(), pair(1, ""))
	must(t, "Replace", s.Replace(key, pair(1, "y"), 6))
	must(t, "Commit", p.Commit())
	before, changes := pages(t, p), d.Calls()
	wants(t, "Insert", s.Insert(pair(2, "x"), 7), api.ErrTx)
	wants(t, "Replace", s.Replace(key, pair(1, "x"), 7), api.ErrTx)
	wants(t, "Delete", s.Delete(key, 7), api.ErrTx)
	wants(t, "Drop", s.Drop(), api.ErrTx)
	n, code := s.Prune(6)
	if n != 0 || code != api.ErrTx {
		t.Errorf("Prune = %d %v", n, code)
	}
	// All other errors are told ahead of that one.
	wants(t, "Insert", s.Insert(nil, 7), api.ErrArg)
	wants(t, "Insert", s.Insert(pair(1, "x"), 7), api.ErrUnique)
	wants(t, "Insert", s.Insert(pair(2, longest+"x"), 7), api.ErrLong)
	wants(t, "Replace", s.Replace(nil, pair(1, "x"), 7), api.ErrNone)
	wants(t, "Replace", s.Replace(key, pair(2, "x"), 7), api.ErrArg)
	wants(t, "Replace", s.Replace(key, pair(1, "x"), 5), api.ErrState)
	wants(t, "Replace", s.Replace(key, pair(1, longest+"x"), 7), api.ErrLong)
	wants(t, "Delete", s.Delete(nil, 7), api.ErrNone)
	wants(t, "Delete", s.Delete(key, 5), api.ErrState)
	if pages(t, p) != before || d.Calls() != changes {
		t.Error("a call without a transaction changes something")
	}
	has(t, s, view{Kind: 4}, row{pair(1, "y"), 6, version.Now}, row{pair(1, "x"), 5, 6})
}

// TestP17_2NoRoom makes changes with few pages that are free: one that fails changes nothing.
func TestP17_2NoRoom(t *testing.T) {
	failed, done := 0, 0
	for free := range 24 {
		p, _, s := fresh(t, kept())
		m := model{table: kept()}
		for i := range int64(5) {
			l := pair(i, strings.Repeat("x", int(i)*700))
			must(t, "Insert", s.Insert(l, 5))
			must(t, "insert", m.insert(l, 5))
		}
		fill(t, p, free)
		_, code := p.Save()
		must(t, "Save", code)
		for i := range int64(9) {
			key := keyOf(t, kept(), pair(i, ""))
			l := pair(i, strings.Repeat("y", int(i+3)%5*900))
			before, was := pages(t, p), m.clone()
			var code api.Errno
			switch {
			case i >= 5:
				code = s.Insert(l, 6)
				m.insert(l, 6)
			case i%2 == 0:
				code = s.Replace(key, l, 6)
				m.replace(key, l, 6)
			default:
				code = s.Delete(key, 6)
				m.remove(key, 6)
			}
			if code == api.OK {
				done++
			} else {
				failed++
				wants(t, "a change without room", code, api.ErrFull)
				if m = was; pages(t, p) != before {
					t.Fatal("a change that failed changes something")
				}
			}
			check(t, s, m, 4, 7)
		}
		// The savepoints are those that there were.
		wants(t, "Back", p.Back(2), api.ErrSave)
	}
	if failed < 20 || done < 20 {
		t.Errorf("%d changes failed, %d did not", failed, done)
	}
}
