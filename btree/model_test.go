package btree_test

import (
	"maps"
	"slices"
	"strconv"
	"strings"
	"testing"

	"hindsight/api"
	"hindsight/btree"
	"hindsight/node"
	"hindsight/pager"
	"hindsight/vdisk"
)

// player makes calls of trees of one pager, and applies them to lists of pairs.
type player struct {
	t     *testing.T
	next  chance
	d     *vdisk.Disk
	p     *pager.Pager
	trees []*btree.Tree
	pairs []map[string]string
	key   func(c *chance) string
	value func(c *chance) string
	deep  int // the greatest depth so far
}

// play is a player in a transaction, with that many trees.
func play(t *testing.T, seed, trees int, key, value func(c *chance) string) *player {
	t.Helper()
	g := &player{t: t, next: chance(seed), d: disk(t), key: key, value: value}
	g.p = begun(t, g.d)
	for range trees {
		g.trees = append(g.trees, create(t, g.p))
		g.pairs = append(g.pairs, map[string]string{})
	}
	return g
}

// check holds all trees against their lists.
func (g *player) check() {
	g.t.Helper()
	g.deep = max(g.deep, checkAll(g.t, g.p, g.trees, g.pairs))
}

// some is a key, in half of the cases one that is in the list.
func (g *player) some(l map[string]string) string {
	if len(l) == 0 || g.next.below(2) == 0 {
		return g.key(&g.next)
	}
	from := g.key(&g.next)
	k, all := "", slices.Sorted(maps.Keys(l))
	if i, _ := slices.BinarySearch(all, from); i < len(all) {
		k = all[i]
	} else {
		k = all[0]
	}
	return k
}

// step makes a call of a tree; in puts of 10 cases one that stores a pair.
func (g *player) step(puts int) {
	g.t.Helper()
	i := g.next.below(len(g.trees))
	a, l := g.trees[i], g.pairs[i]
	k := g.some(l)
	if g.next.below(10) < puts {
		l[k] = g.value(&g.next)
		put(g.t, a, k, l[k])
		return
	}
	_, want := l[k]
	if was, code := a.Del(k); was != want || code != api.OK {
		g.t.Fatalf("Del(%q) = %v %v, want %v", k, was, code, want)
	}
	delete(l, k)
}

// get holds Get of a key against the list.
func (g *player) get() {
	g.t.Helper()
	i := g.next.below(len(g.trees))
	k := g.some(g.pairs[i])
	if want, is := g.pairs[i][k]; is {
		has(g.t, g.trees[i], k, want)
	} else {
		hasNot(g.t, g.trees[i], k)
	}
}

// reopen commits, or not, and opens the trees again.
func (g *player) reopen() {
	g.t.Helper()
	g.p = again(g.t, g.d, g.p)
	for i, a := range g.trees {
		g.trees[i] = btree.Open(g.p, a.Root())
	}
}

// upTo is a text of at most so many bytes.
func upTo(most int) func(c *chance) string {
	return func(c *chance) string { return c.text(c.below(most + 1)) }
}

// either is one of two kinds of texts.
func either(a, b func(c *chance) string) func(c *chance) string {
	return func(c *chance) string {
		if c.below(4) > 0 {
			return a(c)
		}
		return b(c)
	}
}

// exactly is a text of that many bytes, of which only the first two differ.
func exactly(size int) func(c *chance) string {
	return func(c *chance) string { return c.text(2) + strings.Repeat("k", size-2) }
}

// games are the kinds of keys and values, with the depth that their trees reach.
var games = []struct {
	key, value func(c *chance) string
	deep       int
}{
	{upTo(1), upTo(9), 2},
	{upTo(2), upTo(300), 2},
	{upTo(100), upTo(120), 3},
	{exactly(100), upTo(120), 4},
	{exactly(100), exactly(120), 4},
	{either(exactly(2), exactly(100)), either(upTo(9), exactly(120)), 3},
	{either(exactly(100), exactly(3)), upTo(130), 3},
	{upTo(100), either(upTo(120), upTo(8192)), 3},
}

// TestP11_4 makes calls at random, first those that grow the trees, then those that shrink them.
func TestP11_4(t *testing.T) {
	for i, c := range games {
		g := play(t, i, 1+i%3, c.key, c.value)
		for _, puts := range []int{8, 5, 2, 9, 1, 1} {
			for n := range 400 {
				g.step(puts)
				g.get()
				if n%40 == 0 {
					g.check()
				}
				if n%150 == 0 {
					g.reopen()
				}
			}
			g.check()
		}
		if g.deep < c.deep {
			t.Errorf("the trees of game %d have at most the depth %d", i, g.deep)
		}
	}
}

// TestP11_4Savepoints goes back to savepoints, and rolls transactions back.
func TestP11_4Savepoints(t *testing.T) {
	copies := func(l []map[string]string) []map[string]string {
		var c []map[string]string
		for _, m := range l {
			c = append(c, maps.Clone(m))
		}
		return c
	}
	for i, c := range games {
		g := play(t, i, 2, c.key, c.value)
		g.reopen()
		for range 12 {
			begun := copies(g.pairs)
			for save := 1; save <= 3; save++ {
				saved := copies(g.pairs)
				if n, code := g.p.Save(); n != save || code != api.OK {
					t.Fatalf("Save = %d %v", n, code)
				}
				for range 40 {
					g.step(6)
				}
				if g.next.below(2) == 0 {
					must(t, "Back", g.p.Back(save))
					g.pairs = saved
				}
			}
			must(t, "Release", g.p.Release(1))
			g.check()
			if g.next.below(3) == 0 {
				must(t, "Rollback", g.p.Rollback())
				must(t, "Begin", g.p.Begin())
				g.pairs = begun
			} else {
				g.reopen()
			}
			g.check()
		}
	}
}

// orders are orders of the numbers below n.
func orders(n int) map[string][]int {
	l := map[string][]int{"up": nil, "down": nil, "mixed": nil, "outside in": nil, "inside out": nil}
	for i := range n {
		l["up"] = append(l["up"], i)
		l["down"] = append(l["down"], n-1-i)
		l["mixed"] = append(l["mixed"], i*89%n)
		in := i / 2
		if i%2 == 1 {
			in = n - 1 - i/2
		}
		l["outside in"] = append(l["outside in"], in)
	}
	l["inside out"] = slices.Clone(l["outside in"])
	slices.Reverse(l["inside out"])
	return l
}

// TestP11_5 stores pairs in one order and removes them in another; the structure is held at each step.
func TestP11_5(t *testing.T) {
	const n = 210
	for _, size := range []int{4, 60, 100} {
		for in, puts := range orders(n) {
			for out, dels := range orders(n) {
				p := begun(t, disk(t))
				a := create(t, p)
				want := map[string]string{}
				name := func(i int) string { return strconv.Itoa(1000+i) + strings.Repeat("k", size-4) }
				for step, i := range puts {
					k := name(i)
					want[k] = strings.Repeat("v", i*53%125)
					put(t, a, k, want[k])
					if step%23 == 0 || step == n-1 {
						check(t, p, a, want)
					}
				}
				for step, i := range dels {
					del(t, a, name(i))
					delete(want, name(i))
					if step%17 == 0 || step > n-9 {
						check(t, p, a, want)
					}
					if t.Failed() {
						t.Fatalf("keys of %d bytes, %s, %s, step %d", size, in, out, step)
					}
				}
				// All that is left is the root.
				checkAll(t, p, []*btree.Tree{a}, []map[string]string{nil})
				if l := freePages(t, p); len(l) != p.Pages()-2 {
					t.Errorf("%d pages are free of %d", len(l), p.Pages())
				}
			}
		}
	}
}

// names are keys of that many bytes which increase and begin with one text.
func names(front string, count, size int) []string {
	var l []string
	for i := range count {
		l = append(l, front+string(byte('a'+i))+strings.Repeat("k", size-len(front)-1))
	}
	return l
}

// grown lays a tree by hand: below the root are inner nodes, of which the first has one key, the second is full, and the others have one key; between the first two is a short key, and the root is nearly full.
func grown(t *testing.T) (*pager.Pager, *btree.Tree, map[string]string) {
	t.Helper()
	pages := [][]byte{nil}
	want := map[string]string{}
	add := func(b []byte) int {
		pages = append(pages, b)
		return len(pages)
	}
	group := func(first string, rest ...string) int {
		var l []int
		for _, k := range append([]string{first}, rest...) {
			l = append(l, add(leaf(t, k)))
			want[k] = k
		}
		return add(inner(t, l, rest...))
	}
	full := append(names("b", 4, 100), "bz"+strings.Repeat("k", 78))
	root := node.Node{Keys: append(keys{"b"}, names("c", 4, 100)...)}
	root.Kids = append(root.Kids, group("a1", "a2"), group("b", full...))
	for _, k := range root.Keys[1:] {
		root.Kids = append(root.Kids, group(k, k[:2]+"z"))
	}
	pages[0] = page(t, root)
	p := laid(t, pages...)
	return p, btree.Open(p, 1), want
}

// TestP11_5Shares removes a pair so that a node takes keys of a full neighbour: the key between them becomes a long one, and the node above both is too large for it.
func TestP11_5Shares(t *testing.T) {
	for _, k := range []string{"a1", "a2"} {
		p, a, want := grown(t)
		if _, deep := check(t, p, a, want); deep != 3 {
			t.Fatalf("the depth is %d", deep)
		}
		del(t, a, k)
		delete(want, k)
		if _, deep := check(t, p, a, want); deep != 4 {
			t.Errorf("the depth is %d", deep)
		}
		checkAll(t, p, []*btree.Tree{a}, []map[string]string{want})
		for _, k := range slices.Sorted(maps.Keys(want)) {
			del(t, a, k)
			delete(want, k)
			checkAll(t, p, []*btree.Tree{a}, []map[string]string{want})
		}
	}
}

// TestP11_5Joins leaves one pair of each leaf, so that the pages that are not needed any more are free.
func TestP11_5Joins(t *testing.T) {
	p := begun(t, disk(t))
	a := create(t, p)
	want := map[string]string{}
	for i := range 3000 {
		put(t, a, strconv.Itoa(10000+i), strconv.Itoa(i))
	}
	all, _ := check(t, p, a, filled(3000, 1))
	for i := range 3000 {
		k := strconv.Itoa(10000 + i)
		if i%50 == 0 {
			want[k] = strconv.Itoa(i)
		} else {
			del(t, a, k)
		}
	}
	l, _ := check(t, p, a, want)
	if len(l) > len(all)/6 {
		t.Errorf("%d pairs take %d pages, %d took %d", len(want), len(l), 3000, len(all))
	}
	checkAll(t, p, []*btree.Tree{a}, []map[string]string{want})
}

// filled are pairs whose keys and values are numbers in steps.
func filled(n, step int) map[string]string {
	l := map[string]string{}
	for i := 0; i < n; i += step {
		l[strconv.Itoa(10000+i)] = strconv.Itoa(i)
	}
	return l
}

// TestP11_6 drops trees one after the other, also after a part of their pairs was removed.
func TestP11_6(t *testing.T) {
	for i, c := range games {
		g := play(t, i, 4, c.key, c.value)
		for len(g.trees) > 0 {
			for range 150 {
				g.step(7)
			}
			if i%2 == 0 {
				g.reopen()
			}
			n := g.next.below(len(g.trees))
			must(t, "Drop", g.trees[n].Drop())
			g.trees = slices.Delete(g.trees, n, n+1)
			g.pairs = slices.Delete(g.pairs, n, n+1)
			checkAll(t, g.p, g.trees, g.pairs)
		}
		if l := freePages(t, g.p); len(l) != g.p.Pages()-1 {
			t.Errorf("%d pages are free of %d", len(l), g.p.Pages())
		}
		g.reopen()
		pages := g.p.Pages()
		// What is free is used again.
		a := create(t, g.p)
		put(t, a, "k", strings.Repeat("v", 600))
		if g.p.Pages() != pages {
			t.Errorf("%d pages, there were %d", g.p.Pages(), pages)
		}
		must(t, "Drop", a.Drop())
		checkAll(t, g.p, nil, nil)
	}
}
