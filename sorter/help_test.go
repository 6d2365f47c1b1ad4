package sorter_test

import (
	"math"
	"slices"
	"strings"
	"testing"

	"hindsight/api"
	"hindsight/sorter"
)

// Short names for what the tests make by the dozen.
type (
	value  = api.Value
	values = []api.Value
	rows   = [][]api.Value
)

func number(n int64) value { return value{Kind: 1, Int: n} }
func text(s string) value  { return value{Kind: 2, Text: s} }
func blob(s string) value  { return value{Kind: 3, Text: s} }

// row is the row of some integers.
func row(l ...int64) values {
	r := values{}
	for _, n := range l {
		r = append(r, number(n))
	}
	return r
}

// invalid are values that are not valid.
func invalid() values {
	return values{{Int: 1}, {Int: -1}, {Text: "a"}, {Kind: 1, Text: "a"}, {Kind: 1, Int: 3, Text: "3"}, {Kind: 2, Int: 1}, {Kind: 2, Int: -1, Text: "a"}, {Kind: 3, Int: 1, Text: "a"}, {Kind: 4}, {Kind: 255, Text: "a"}, {Kind: 4, Int: 1}}
}

// ordered are valid values in increasing order.
func ordered() values {
	return values{
		{},
		number(math.MinInt64), number(math.MinInt64 + 1), number(-300), number(-1), number(0), number(1), number(2), number(10), number(300), number(math.MaxInt64 - 1), number(math.MaxInt64),
		text(""), text("\x00"), text("1"), text("10"), text("2"), text("A"), text("a"), text("a\x00"), text("aa"), text("b"), text("\u00e4"), text("\xff"),
		blob(""), blob("\x00"), blob("1"), blob("a"), blob("aa"), blob("\u00e4"), blob("\xff"),
	}
}

// less reports whether the key a is ahead of b by the chapter's definition.
func less(a, b values, desc []bool) bool {
	all := ordered()
	for i := 0; i < len(a) && i < len(b); i++ {
		x, y := slices.Index(all, a[i]), slices.Index(all, b[i])
		if x != y {
			return (x < y) != (i < len(desc) && desc[i])
		}
	}
	return len(a) < len(b)
}

// sorted are the places of keys in their order, by the chapter's definition: each goes behind the last one that it is not ahead of.
func sorted(keys rows, desc []bool) []int {
	var l []int
	for i, key := range keys {
		at := len(l)
		for at > 0 && less(key, keys[l[at-1]], desc) {
			at--
		}
		l = slices.Insert(l, at, i)
	}
	return l
}

// distinct is each row once, by the chapter's definition.
func distinct(l rows) rows {
	var some rows
	for _, r := range l {
		if numberOf(some, r) < 0 {
			some = append(some, r)
		}
	}
	return some
}

// numberOf is where a row is; -1 if it is not there.
func numberOf(l rows, r values) int {
	return slices.IndexFunc(l, func(x values) bool { return slices.Equal(x, r) })
}

// equal reports whether the rows are the same ones.
func equal(a, b rows) bool { return slices.EqualFunc(a, b, slices.Equal) }

// copied is l in memory of its own.
func copied(l rows) rows {
	var own rows
	for _, r := range l {
		own = append(own, slices.Clone(r))
	}
	return own
}

// spoil overwrites all rows, the ones behind their ends and the list.
func spoil(l rows) {
	for i, r := range l {
		clear(r)
		r = r[:cap(r)]
		for k := range r {
			r[k] = value{Kind: 77, Text: "spoilt"}
		}
		l[i] = nil
	}
	l = l[:cap(l)]
	for i := range l {
		l[i] = values{{Kind: 78}}
	}
}

// adds adds rows with these keys.
func adds(t *testing.T, s *sorter.Sorter, keys, l rows) {
	t.Helper()
	for i, key := range keys {
		if err := s.Add(key, l[i]); err != api.OK {
			t.Fatalf("Add(%v, %v) = %v", key, l[i], err)
		}
	}
}

// gives holds the rows of a sorter, as often as they are asked for.
func gives(t *testing.T, s *sorter.Sorter, want rows) {
	t.Helper()
	for range 2 {
		if l := s.Rows(); !equal(l, want) || s.Len() != len(want) {
			t.Errorf("Rows = %.500v and Len = %d, want %.500v", l, s.Len(), want)
		}
	}
}

// puts holds that a row has that number, and whether it is new.
func puts(t *testing.T, g *sorter.Groups, r values, want int, isNew bool) {
	t.Helper()
	if n, is, err := g.Put(r); n != want || is != isNew || err != api.OK {
		t.Errorf("Put(%.200v) = %d %v %v, want %d %v", r, n, is, err, want, isNew)
	}
}

// alike are rows that are all different, though not much.
func alike() rows {
	long := strings.Repeat("x", 200)
	l := rows{
		{}, {{}}, {{}, {}}, {{}, {}, {}}, {number(0)}, {text("")}, {blob("")}, {number(0), number(0)}, {text(""), text("")}, {blob(""), text("")}, {text(""), blob("")},
		{number(1)}, {number(-1)}, {number(2)}, {number(-2)}, {text("1")}, {blob("1")}, {number(1), {}}, {{}, number(1)}, {number(1), number(2)}, {number(2), number(1)}, {number(12)}, {text("12")}, {text("1"), text("2")}, {text("12"), text("")}, {text(""), text("12")}, {text("1"), blob("2")}, {blob("1"), text("2")},
		{text("a"), text("b")}, {text("ab")}, {text("a,b")}, {text("a\x00b")}, {text("a\x00\x02b")}, {text("a\x02\x01b")}, {text("a\x02\x00\x01b")}, {text("a"), text(""), text("b")}, {text("ab"), {}}, {text("a"), {}, text("b")}, {blob("ab")}, {blob("a"), blob("b")},
		{text("A")}, {text("a")}, {text("a ")}, {text("\xff")}, {blob("\xff")}, {text("\u00e4")}, {text("a\u0308")}, {number(math.MaxInt64)}, {number(math.MinInt64)}, {number(1 << 32)}, {number(256)}, {number(127)}, {number(128)}, {number(64)}, {number(-64)}, {number(-65)},
		{text(long)}, {text(long + "x")}, {blob(long)}, {text(long), text(long)}, {text(long + long)},
		{text("\x01\x02")}, {number(1), text("")}, {text("\x02\x00\x00")}, {text("\x00\x00\x00")}, {text("\x00")}, {blob("\x00")}, {text("\x00"), {}},
		make(values, 16), make(values, 17), make(values, 300), {text(strings.Repeat("y", 9000))}, {text(strings.Repeat("y", 9001))},
	}
	return l
}

// chance are numbers that follow from each other.
type chance uint64

// below is the next number, from 0 to n - 1.
func (c *chance) below(n int) int {
	*c = *c*6364136223846793005 + 1442695040888963407
	return int(uint64(*c)>>33) % n
}

// row is up to so many values of l.
func (c *chance) row(most int, l values) values {
	r := values{}
	for range c.below(most + 1) {
		r = append(r, l[c.below(len(l))])
	}
	return r
}

// desc is up to so many directions.
func (c *chance) desc(most int) []bool {
	var l []bool
	for range c.below(most + 1) {
		l = append(l, c.below(2) == 0)
	}
	return l
}
