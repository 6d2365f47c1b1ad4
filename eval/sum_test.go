package eval_test

import (
	"math"
	"math/big"
	"slices"
	"strings"
	"testing"

	"hindsight/api"
	"hindsight/eval"
)

// sums holds the value of an aggregate.
func sums(t *testing.T, s *eval.Sum, want value, what string) {
	t.Helper()
	if v, code := s.Value(); v != want || code != api.OK {
		t.Errorf("%s: Value = %v %v, want %v", what, v, code, want)
	}
}

// adds adds rows of one value, none of which has an error.
func adds(t *testing.T, s *eval.Sum, l ...value) {
	t.Helper()
	for _, v := range l {
		if code := s.Add(values{v}); code != api.OK {
			t.Fatalf("Add(%v) = %v", v, code)
		}
	}
}

func TestP23_2Values(t *testing.T) {
	null := value{}
	for _, c := range []struct {
		op   string
		l    values
		want value
	}{
		{"count", nil, number(0)}, {"count", values{null, null}, number(0)}, {"count", values{number(5), null, number(5), number(0)}, number(3)}, {"count", values{text("a"), blob(""), number(1), null}, number(3)},
		{"sum", nil, null}, {"sum", values{null}, null}, {"sum", values{null, null, null}, null}, {"sum", values{number(0)}, number(0)}, {"sum", values{null, number(3), null, number(4)}, number(7)}, {"sum", values{number(5), number(-5)}, number(0)}, {"sum", values{number(5), number(-5), null}, number(0)},
		{"sum", values{number(math.MaxInt64)}, number(math.MaxInt64)}, {"sum", values{number(math.MinInt64)}, number(math.MinInt64)}, {"sum", values{number(math.MaxInt64 - 1), number(1)}, number(math.MaxInt64)}, {"sum", values{number(1), number(math.MaxInt64 - 1)}, number(math.MaxInt64)}, {"sum", values{number(math.MinInt64 + 1), number(-1)}, number(math.MinInt64)}, {"sum", values{number(math.MaxInt64), number(math.MinInt64), number(math.MaxInt64)}, number(math.MaxInt64 - 1)},
		{"min", nil, null}, {"min", values{null, null}, null}, {"min", values{number(2), number(1), number(3)}, number(1)}, {"min", values{null, number(0), null, number(1)}, number(0)}, {"min", values{number(1), null, number(0)}, number(0)}, {"min", values{number(-1), number(math.MinInt64)}, number(math.MinInt64)}, {"min", values{text("b"), text("a"), text("aa")}, text("a")}, {"min", values{text(""), blob(""), number(9)}, number(9)}, {"min", values{blob("a"), text("b")}, text("b")}, {"min", values{text("a"), text("")}, text("")},
		{"max", nil, null}, {"max", values{null, null}, null}, {"max", values{number(2), number(3), number(1)}, number(3)}, {"max", values{null, number(0), null, number(-1)}, number(0)}, {"max", values{number(-1), null, number(0)}, number(0)}, {"max", values{number(-1), number(-2)}, number(-1)}, {"max", values{number(math.MinInt64)}, number(math.MinInt64)}, {"max", values{text("b"), text("ba"), text("a")}, text("ba")}, {"max", values{number(9), text(""), number(10)}, text("")}, {"max", values{blob(""), text("b")}, blob("")}, {"max", values{text("")}, text("")},
	} {
		s := begun(t, of(6, c.op, col(0)))
		adds(t, s, c.l...)
		sums(t, s, c.want, c.op)
		sums(t, s, c.want, "again")
	}
}

func TestP23_2Count(t *testing.T) {
	s := begun(t, of(6, "count"))
	sums(t, s, number(0), "no rows")
	// No value is looked at.
	for i, row := range []values{nil, {}, {{}}, {{}, {}}, invalid(), ordered()} {
		if code := s.Add(row); code != api.OK {
			t.Errorf("Add(%v) = %v", row, code)
		}
		sums(t, s, number(int64(i+1)), "count")
	}
	s = begun(t, of(6, "count", lit(number(0))))
	adds(t, s, value{}, value{Kind: 9}, number(1))
	sums(t, s, number(3), "count of 0")
}

func TestP23_2Expressions(t *testing.T) {
	for s, want := range map[string]value{
		"count(*)": number(4), "count(i)": number(3), "count(j)": number(0), "count(null)": number(0), "count(i is null)": number(4), "sum(i)": number(12), "sum(i * i - 1)": number(63), "sum(1)": number(4), "sum(j)": {}, "sum(i > 2)": number(2), "sum(length(s))": number(4), "min(i)": number(1), "max(i)": number(7), "min(-i)": number(-7), "max(s)": text("bb"), "min(s || '!')": text("!"), "min(b)": blob("x"), "max(b || b)": blob("yy"), "max(j)": {}, "max(5)": number(5), "min(null)": {},
	} {
		sum := begun(t, bound(t, s))
		for _, row := range []values{{number(4), {}, text("bb"), {}, blob("y")}, {{}, {}, {}, {}, blob("x")}, {number(1), {}, text(""), {}, {}}, {number(7), {}, text("ab"), {}, {}}} {
			if code := sum.Add(append(row, value{})); code != api.OK {
				t.Errorf("%s: Add = %v", s, code)
			}
		}
		sums(t, sum, want, s)
	}
}

func TestP23_2Begin(t *testing.T) {
	for kind := -1; kind < 9; kind++ {
		for _, op := range strings.Split("count;sum;min;max;length;overlaps;-;+;not;and;is null;;COUNT;avg;count ", ";") {
			for count := range 6 {
				n := node{Kind: kind, Op: op, Args: make(nodes, count)}
				s, code := eval.Begin(n)
				if kind == 6 && takes(6, op, count) {
					if s == nil || code != api.OK {
						t.Errorf("Begin of %d, %s, %d = %v %v", kind, op, count, s, code)
					}
				} else if s != nil || code != api.ErrForm {
					t.Errorf("Begin of %d, %s, %d = %v %v", kind, op, count, s, code)
				}
			}
		}
	}
	for _, kind := range []int{256 + 6, math.MinInt, math.MaxInt} {
		if s, code := eval.Begin(of(kind, "count")); s != nil || code != api.ErrForm {
			t.Errorf("Begin of %d = %v %v", kind, s, code)
		}
	}
	// The other fields are not looked at.
	s := begun(t, node{Kind: 6, Op: "max", Value: value{Kind: 9}, Slot: -1, Type: 7, Args: nodes{col(0)}})
	adds(t, s, number(1))
	sums(t, s, number(1), "max")
}

func TestP23_2Nil(t *testing.T) {
	made := begun(t, of(6, "count"))
	copied := *made
	for i, s := range []*eval.Sum{nil, {}, new(eval.Sum), &copied} {
		for _, row := range []values{nil, {number(1)}, invalid()} {
			if code := s.Add(row); code != api.ErrNil {
				t.Errorf("%d: Add = %v", i, code)
			}
			if v, code := s.Value(); v != (value{}) || code != api.ErrNil {
				t.Errorf("%d: Value = %v %v", i, v, code)
			}
		}
	}
	sums(t, made, number(0), "what was copied")
}

// TestP23_2Errors has aggregates with and without rows: after an error they are as they were.
func TestP23_2Errors(t *testing.T) {
	sumsBefore := map[string]value{"count": number(2), "sum": number(8), "min": number(3), "max": number(5)}
	for op, want := range sumsBefore {
		for _, n := range append(wrong(), zero(), over(), typed(), empty(), beyond(), lit(value{Kind: 4})) {
			for count := range 3 {
				// The argument is the one value, or has the error where that is 0.
				s := begun(t, of(6, op, of(4, "+", col(0), of(4, "*", col(1), n))))
				_, code := expected(n, values{{}, {}})
				for i := range count {
					if err := s.Add(values{number(int64(3 + 2*i)), {}}); err != code {
						t.Errorf("%s with %+v: Add = %v, want %v", op, n, err, code)
					}
				}
				none := value{}
				if op == "count" {
					none = number(0)
				}
				sums(t, s, none, op)
			}
		}
		for _, bad := range append(values{{Kind: 9}}, invalid()...) {
			s := begun(t, of(6, op, col(0)))
			for _, v := range []int64{3, 5} {
				if code := s.Add(values{bad}); code != api.ErrForm {
					t.Errorf("%s: Add(%v) = %v", op, bad, code)
				}
				if code := s.Add(nil); code != api.ErrColumn {
					t.Errorf("%s: Add of no values = %v", op, code)
				}
				adds(t, s, number(v), value{})
			}
			if code := s.Add(values{bad}); code != api.ErrForm {
				t.Errorf("%s: Add(%v) = %v", op, bad, code)
			}
			sums(t, s, want, op)
		}
	}
}

func TestP23_2SumErrors(t *testing.T) {
	for _, bad := range (values{text(""), text("1"), blob(""), blob("a")}) {
		s := begun(t, of(6, "sum", col(0)))
		for _, want := range (values{{}, number(2), number(2)}) {
			if code := s.Add(values{bad}); code != api.ErrType {
				t.Errorf("Add(%v) = %v", bad, code)
			}
			sums(t, s, want, "after a text or blob")
			if want == (value{}) {
				adds(t, s, number(2))
			}
		}
	}
	for _, c := range [][2]int64{{math.MaxInt64, 1}, {1, math.MaxInt64}, {math.MinInt64, -1}, {-1, math.MinInt64}, {math.MaxInt64, math.MaxInt64}, {math.MinInt64, math.MinInt64}, {math.MaxInt64/2 + 1, math.MaxInt64/2 + 1}} {
		s := begun(t, of(6, "sum", col(0)))
		adds(t, s, number(c[0]))
		for range 3 {
			if code := s.Add(values{number(c[1])}); code != api.ErrOver {
				t.Errorf("Add(%d) to %d = %v", c[1], c[0], code)
			}
			sums(t, s, number(c[0]), "after one that is too much")
		}
		// One that fits may follow.
		back := int64(1)
		if c[0] > 0 {
			back = -1
		}
		adds(t, s, number(back))
		sums(t, s, number(c[0]+back), "one back")
	}
	// Of the others none is a sum.
	for _, op := range []string{"count", "min", "max"} {
		s := begun(t, of(6, op, col(0)))
		adds(t, s, number(math.MaxInt64), text("a"), number(math.MaxInt64), blob("a"), number(1))
		sums(t, s, map[string]value{"count": number(5), "min": number(1), "max": blob("a")}[op], op)
	}
}

// aggregate is the value of an aggregate by the chapter's definition: what it skips are the rows with an error.
func aggregate(op string, l values) (value, []api.Errno) {
	total, count, some, codes := new(big.Int), int64(0), values{}, []api.Errno{}
	for _, v := range l {
		code := api.OK
		switch {
		case !right(v):
			code = api.ErrForm
		case v.Kind == 0:
		case op == "sum" && v.Kind > 1:
			code = api.ErrType
		case op == "sum" && !new(big.Int).Add(total, big.NewInt(v.Int)).IsInt64():
			code = api.ErrOver
		default:
			count++
			if op == "sum" {
				total.Add(total, big.NewInt(v.Int))
			}
			some = append(some, v)
		}
		codes = append(codes, code)
	}
	slices.SortFunc(some, func(a, b value) int {
		all := ordered()
		return slices.Index(all, a) - slices.Index(all, b)
	})
	switch {
	case op == "count":
		return number(count), codes
	case count == 0:
		return value{}, codes
	case op == "sum":
		return number(total.Int64()), codes
	case op == "min":
		return some[0], codes
	}
	return some[len(some)-1], codes
}

func TestP23_2ByChance(t *testing.T) {
	next := chance(2)
	for range 20000 {
		op := next.op("count sum min max")
		l := values{}
		from := ordered()[:1+next.below(len(ordered()))]
		for range next.below(12) {
			l = append(l, next.value(from))
			if next.below(30) == 0 {
				l[len(l)-1] = next.value(invalid())
			}
		}
		s := begun(t, of(6, op, col(0)))
		_, codes := aggregate(op, l)
		for i, v := range l {
			if code := s.Add(values{v}); code != codes[i] {
				t.Fatalf("%s of %v: Add of number %d = %v, want %v", op, l, i, code, codes[i])
			}
			want, _ := aggregate(op, l[:i+1])
			sums(t, s, want, op)
		}
	}
}

// TestP23_4AnyOrder has the same rows in two orders.
func TestP23_4AnyOrder(t *testing.T) {
	next, same := chance(4), 0
	for range 20000 {
		op := next.op("count sum min max")
		l := values{{}}
		from := ordered()[:1+next.below(len(ordered()))]
		for range next.below(9) {
			l = append(l, next.value(from))
		}
		var results values
		ok := true
		for range 4 {
			for i := range l {
				k := next.below(i + 1)
				l[i], l[k] = l[k], l[i]
			}
			s := begun(t, of(6, op, col(0)))
			for _, v := range l {
				ok = s.Add(values{v}) == api.OK && ok
			}
			v, _ := s.Value()
			results = append(results, v)
		}
		if ok && len(slices.Compact(results)) != 1 {
			t.Fatalf("%s of %v = %v", op, l, results)
		}
		if ok {
			same++
		}
	}
	if same < 5000 {
		t.Errorf("only %d times no error", same)
	}
}

// TestP23_2Memory changes what was handed in.
func TestP23_2Memory(t *testing.T) {
	inner := nodes{col(0), lit(number(1))}
	n := of(6, "sum", of(4, "+", inner...))
	n.Args[0].Args = inner
	s := begun(t, n)
	row := values{number(4)}
	if code := s.Add(row); code != api.OK {
		t.Fatal(code)
	}
	inner[0], inner[1], n.Args[0].Args, n.Args[0].Op = node{}, node{}, nil, "?"
	n.Args[0] = node{Kind: 99}
	row[0] = number(1000)
	sums(t, s, number(5), "sum")
	adds(t, s, number(6))
	sums(t, s, number(12), "sum")
	largest := begun(t, of(6, "max", col(0)))
	adds(t, largest, text("b"))
	row[0] = text("a")
	if code := largest.Add(row); code != api.OK {
		t.Fatal(code)
	}
	row[0] = text("c")
	sums(t, largest, text("b"), "max")

	// Two aggregates of one node have nothing in common.
	m := of(6, "count", col(0))
	a, b := begun(t, m), begun(t, m)
	adds(t, a, number(1))
	sums(t, b, number(0), "another one")
	deep := begun(t, of(6, "sum", nested(1<<16-1, lit(number(1)))))
	want, _ := expected(nested(1<<16-1, lit(number(1))), nil)
	adds(t, deep, value{})
	sums(t, deep, want, "deep")
}
