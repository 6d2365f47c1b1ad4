package cursor_test

import (
	"maps"
	"math"
	"slices"
	"strconv"
	"strings"
	"testing"

	"hindsight/api"
	"hindsight/btree"
	"hindsight/cursor"
	"hindsight/node"
)

// isRange holds Range against the pairs of a list, in order.
func isRange(t *testing.T, a *btree.Tree, l map[string]string, from, to string, most int) {
	t.Helper()
	var want []string
	for _, k := range slices.Sorted(maps.Keys(l)) {
		if k >= from && k < to && len(want) < most {
			want = append(want, k)
		}
	}
	got, code := cursor.Range(a, from, to, most)
	if code != api.OK || len(got) != len(want) {
		t.Fatalf("Range(%q, %q, %d) = %d pairs, %v, want %d", from, to, most, len(got), code, len(want))
	}
	for i, pair := range got {
		if pair.Key != want[i] || string(pair.Val) != l[want[i]] {
			t.Fatalf("Range(%q, %q, %d): pair %d is %q, want %q", from, to, most, i, pair.Key, want[i])
		}
	}
}

func TestP12_3Range(t *testing.T) {
	for _, count := range []int{0, 1, 2, 60, 500} {
		l := numbers(count)
		a := tree(t, l)
		ends := []string{"", "\x00", "1", "10000", "10001", "10002", "10003", strconv.Itoa(10000 + count - 1), strconv.Itoa(10000 + 2*count - 2), strconv.Itoa(10000 + 2*count - 1), "2", "\xff", strings.Repeat("1", 200)}
		for _, from := range ends {
			for _, to := range ends {
				for _, most := range []int{math.MinInt, -1, 0, 1, 2, 3, count - 1, count, count + 1, math.MaxInt} {
					isRange(t, a, l, from, to, most)
				}
			}
		}
	}
}

// TestP12_3Memory holds that the pairs are new memory.
func TestP12_3Memory(t *testing.T) {
	l := map[string]string{"a": "x", "b": strings.Repeat("y", 300), "c": "z"}
	a := tree(t, l)
	got, _ := cursor.Range(a, "", "z", 9)
	for _, pair := range got {
		clear(pair.Val[:cap(pair.Val)])
	}
	clear(got)
	isRange(t, a, l, "", "z", 9)
}

func TestP12_3Count(t *testing.T) {
	for _, count := range []int{0, 1, 2, 3, 50, 500, 3000} {
		if n, code := cursor.Count(tree(t, numbers(count))); n != count || code != api.OK {
			t.Errorf("Count = %d %v, want %d", n, code, count)
		}
	}
}

func TestP12_3Errors(t *testing.T) {
	fails := func(a *btree.Tree, want api.Errno) {
		t.Helper()
		if n, code := cursor.Count(a); n != 0 || code != want {
			t.Errorf("Count = %d %v, want %v", n, code, want)
		}
		for _, most := range []int{1, 9, math.MaxInt} {
			if l, code := cursor.Range(a, "", "z", most); len(l) != 0 || code != want {
				t.Errorf("Range = %d pairs, %v, want %v", len(l), code, want)
			}
		}
	}
	d, p, a, l := threeLevels(t)
	fails(nil, api.ErrNil)
	fails(&btree.Tree{}, api.ErrNil)
	fails(btree.Open(nil, 1), api.ErrNil)
	fails(btree.Open(p, 0), api.ErrArg)
	fails(btree.Open(p, 8), api.ErrArg)
	down(d)
	fails(a, api.ErrDown)
	must(t, "Crash", d.Crash(nil))
	// Only the pages that are needed are met.
	must(t, "Begin", p.Begin())
	must(t, "Put", p.Put(6, make([]byte, 512)))
	want := map[string]string{}
	for _, k := range l {
		want[k] = k
	}
	isRange(t, a, want, "", "i", 4)
	isRange(t, a, want, "c", "h", 9)
	isRange(t, a, want, "t", "z", 9)
	for _, from := range []string{"", "h", "i", "m", "o"} {
		if l, code := cursor.Range(a, from, "z", 9); len(l) != 0 || code != api.ErrCorrupt {
			t.Errorf("Range = %d pairs, %v", len(l), code)
		}
	}
	if n, code := cursor.Count(a); n != 0 || code != api.ErrCorrupt {
		t.Errorf("Count = %d %v", n, code)
	}
	must(t, "Put", p.Put(6, make([]byte, 512)))
}

// TestP12_3Value has a value that cannot be read: Range returns its error, and Count does not read it.
func TestP12_3Value(t *testing.T) {
	_, _, a := laid(t, page(t, node.Node{Leaf: true, Keys: keys{"a", "b", "c"}, Cells: cells{{Len: 1, Data: "a"}, {Len: 121, Page: 9}, {Len: 1, Data: "c"}}}))
	if l, code := cursor.Range(a, "", "z", 9); len(l) != 0 || code != api.ErrArg {
		t.Errorf("Range = %v %v", l, code)
	}
	isRange(t, a, map[string]string{"a": "a", "c": "c"}, "", "b", 9)
	isRange(t, a, map[string]string{"a": "a", "c": "c"}, "b\x00", "z", 9)
	if n, code := cursor.Count(a); n != 3 || code != api.OK {
		t.Errorf("Count = %d %v", n, code)
	}
}

// trees are pairs of many kinds: few and many, with short and long keys.
func trees() []map[string]string {
	next := chance(1)
	l := []map[string]string{nil, {"": ""}, {"": "v", "\x00": "w", "\xff": "x"}, numbers(40), numbers(700)}
	for _, size := range []int{1, 2, 30, 100} {
		for _, count := range []int{5, 60, 400} {
			m := map[string]string{}
			for range count {
				m[next.text(1+next.below(size))] = next.text(next.below(150))
			}
			l = append(l, m)
		}
	}
	return l
}

// TestP12_4 visits all pairs in order, and in reverse order.
func TestP12_4(t *testing.T) {
	for _, l := range trees() {
		c := cursor.New(tree(t, l))
		order := slices.Sorted(maps.Keys(l))
		code := c.First()
		for _, k := range order {
			must(t, "First or Next", code)
			isAt(t, c, k, l[k])
			code = c.Next()
		}
		must(t, "the last Next", code)
		isAtNone(t, c)
		code = c.Last()
		for _, k := range slices.Backward(order) {
			must(t, "Last or Prev", code)
			isAt(t, c, k, l[k])
			code = c.Prev()
		}
		must(t, "the last Prev", code)
		isAtNone(t, c)
	}
}

// TestP12_4Walk moves a cursor to and fro.
func TestP12_4Walk(t *testing.T) {
	next := chance(3)
	for _, l := range trees() {
		order := slices.Sorted(maps.Keys(l))
		if len(order) == 0 {
			continue
		}
		c, i := cursor.New(tree(t, l)), 0
		must(t, "First", c.First())
		for range 3000 {
			isAt(t, c, order[i], l[order[i]])
			switch back := next.below(2) == 0; {
			case back && i > 0:
				i--
				must(t, "Prev", c.Prev())
			case !back && i < len(order)-1:
				i++
				must(t, "Next", c.Next())
			}
		}
	}
}

// TestP12_5 seeks keys that there are and others: the position is that of First and then Next, also for what follows it.
func TestP12_5(t *testing.T) {
	next := chance(4)
	for _, l := range trees() {
		a := tree(t, l)
		order := slices.Sorted(maps.Keys(l))
		sought := append(slices.Clone(order), "", "\xff\xff")
		for _, k := range order {
			sought = append(sought, k+"\x00", k[:len(k)/2], next.text(next.below(9)))
		}
		c := cursor.New(a)
		for _, k := range sought {
			must(t, "Seek", c.Seek(k))
			i, _ := slices.BinarySearch(order, k)
			if i == len(order) {
				isAtNone(t, c)
				continue
			}
			isAt(t, c, order[i], l[order[i]])
			checkAround(t, c, order, i)
		}
	}
}

// checkAround holds the keys behind the position of a cursor and then those ahead of it.
func checkAround(t *testing.T, c *cursor.Cursor, order []string, i int) {
	t.Helper()
	end := min(i+3, len(order)-1)
	for j := i + 1; j <= end; j++ {
		must(t, "Next", c.Next())
		if c.Key() != order[j] {
			t.Fatalf("Key = %q, want %q", c.Key(), order[j])
		}
	}
	for j := end - 1; j >= max(i-3, 0); j-- {
		must(t, "Prev", c.Prev())
		if c.Key() != order[j] {
			t.Fatalf("Key = %q, want %q", c.Key(), order[j])
		}
	}
}
