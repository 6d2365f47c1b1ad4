package machine_test

import (
	"math"
	"slices"
	"strings"
	"testing"

	"hindsight/api"
	"hindsight/compile"
	"hindsight/eval"
	"hindsight/machine"
)

func TestP27_1New(t *testing.T) {
	for _, fuel := range []int{0, 1, 2, 1000, api.MaxFuel - 1, api.MaxFuel, 1048576} {
		left(t, made(t, fuel), fuel, "New")
	}
	for _, fuel := range []int{-1, -2, api.MaxFuel + 1, 1048577, 2 * api.MaxFuel, math.MinInt, math.MaxInt, -api.MaxFuel, 1 << 32, 1<<32 + 1} {
		if m, err := machine.New(fuel); m != nil || err != api.ErrArg {
			t.Errorf("New(%d) = %v %v", fuel, m, err)
		}
	}
}

func TestP27_1Nil(t *testing.T) {
	var m *machine.Machine
	left(t, m, 0, "nil")
	for _, n := range []int{0, 1, -1, math.MinInt, math.MaxInt, api.MaxFuel} {
		if err := m.Spend(n); err != api.ErrNil {
			t.Errorf("Spend(%d) of nil = %v", n, err)
		}
	}
	for _, p := range append(broken(), with(nil, slot(0)), with(values{number(1)}, constant(0)), with(nil, slot(9)), with(values{text("a")}, constant(0))) {
		for _, row := range []values{nil, {number(1)}, invalid()} {
			if v, err := m.Run(p, row); v != (value{}) || err != api.ErrNil {
				t.Errorf("Run(%.200v) of nil = %v %v", p, v, err)
			}
			if is, err := m.True(p, row); is || err != api.ErrNil {
				t.Errorf("True(%.200v) of nil = %v %v", p, is, err)
			}
		}
	}
}

// TestP27_1NotMade has machines that New did not make: they have no fuel.
func TestP27_1NotMade(t *testing.T) {
	for _, m := range []*machine.Machine{{}, new(machine.Machine)} {
		left(t, m, 0, "not made")
		for _, c := range []struct {
			n    int
			want api.Errno
		}{{-1, api.ErrArg}, {0, api.OK}, {1, api.ErrFuel}, {math.MaxInt, api.ErrFuel}, {0, api.OK}} {
			if err := m.Spend(c.n); err != c.want {
				t.Errorf("Spend(%d) = %v, want %v", c.n, err, c.want)
			}
		}
		if v, err := m.Run(with(values{number(1)}, constant(0)), nil); v != (value{}) || err != api.ErrFuel {
			t.Errorf("Run = %v %v", v, err)
		}
		if v, err := m.Run(program{}, nil); v != (value{}) || err != api.ErrForm {
			t.Errorf("Run = %v %v", v, err)
		}
		left(t, m, 0, "not made")
	}
}

func TestP27_1Spend(t *testing.T) {
	for _, c := range []struct {
		fuel, n int
		want    api.Errno
		rest    int
	}{
		{0, 0, api.OK, 0}, {0, 1, api.ErrFuel, 0}, {0, -1, api.ErrArg, 0}, {0, math.MaxInt, api.ErrFuel, 0}, {0, math.MinInt, api.ErrArg, 0},
		{1, 0, api.OK, 1}, {1, 1, api.OK, 0}, {1, 2, api.ErrFuel, 0}, {1, -1, api.ErrArg, 1}, {1, math.MinInt, api.ErrArg, 1},
		{7, 0, api.OK, 7}, {7, 1, api.OK, 6}, {7, 6, api.OK, 1}, {7, 7, api.OK, 0}, {7, 8, api.ErrFuel, 0}, {7, 1 << 32, api.ErrFuel, 0}, {7, math.MaxInt, api.ErrFuel, 0}, {7, -7, api.ErrArg, 7}, {7, math.MinInt, api.ErrArg, 7}, {7, -1, api.ErrArg, 7},
		{api.MaxFuel, api.MaxFuel, api.OK, 0}, {api.MaxFuel, api.MaxFuel + 1, api.ErrFuel, 0}, {api.MaxFuel, api.MaxFuel - 1, api.OK, 1}, {api.MaxFuel, math.MaxInt, api.ErrFuel, 0}, {api.MaxFuel, -1, api.ErrArg, api.MaxFuel},
	} {
		m := made(t, c.fuel)
		if err := m.Spend(c.n); err != c.want {
			t.Errorf("Spend(%d) of %d = %v, want %v", c.n, c.fuel, err, c.want)
		}
		left(t, m, c.rest, "Spend")
	}
}

// TestP27_1SpendByChance has many calls on one machine, held against a number; another machine stays as it is.
func TestP27_1SpendByChance(t *testing.T) {
	next, other := chance(271), made(t, 5)
	for range 300 {
		fuel := next.below(100)
		m := made(t, fuel)
		for range 12 {
			n, want := next.below(40)-8, api.OK
			switch {
			case n < 0:
				want = api.ErrArg
			case n > fuel:
				want, fuel = api.ErrFuel, 0
			default:
				fuel -= n
			}
			if err := m.Spend(n); err != want {
				t.Fatalf("Spend(%d) = %v, want %v", n, err, want)
			}
			left(t, m, fuel, "Spend")
		}
	}
	left(t, other, 5, "another machine")
}

// TestP27_2Effects has each op with each Arg, and arguments that tell in which order they were pushed.
func TestP27_2Effects(t *testing.T) {
	row := values{number(7), number(2), {}, text("ab"), text("a%"), blob("\x00\xff"), number(9), number(0)}
	for _, c := range []struct {
		slots []int
		x     instr
		want  value
	}{
		{[]int{0}, unary(0), number(-7)}, {[]int{2}, unary(0), value{}}, {[]int{0}, unary(1), number(0)}, {[]int{7}, unary(1), number(1)}, {[]int{2}, unary(1), value{}}, {[]int{2}, unary(2), number(1)}, {[]int{3}, unary(2), number(0)}, {[]int{2}, unary(3), number(0)}, {[]int{3}, unary(3), number(1)}, {[]int{3}, unary(4), number(2)}, {[]int{5}, unary(4), number(2)}, {[]int{2}, unary(4), value{}},
		{[]int{7, 0}, binary(0), number(1)}, {[]int{7, 7}, binary(0), number(0)}, {[]int{7, 2}, binary(0), value{}}, {[]int{7, 0}, binary(1), number(0)}, {[]int{1, 0}, binary(1), number(1)}, {[]int{2, 7}, binary(1), number(0)},
		{[]int{0, 0}, binary(2), number(1)}, {[]int{0, 1}, binary(2), number(0)}, {[]int{0, 2}, binary(2), value{}}, {[]int{0, 0}, binary(3), number(0)}, {[]int{0, 1}, binary(3), number(1)},
		{[]int{0, 1}, binary(4), number(0)}, {[]int{1, 0}, binary(4), number(1)}, {[]int{0, 0}, binary(4), number(0)}, {[]int{0, 1}, binary(5), number(0)}, {[]int{1, 0}, binary(5), number(1)}, {[]int{0, 0}, binary(5), number(1)},
		{[]int{0, 1}, binary(6), number(1)}, {[]int{1, 0}, binary(6), number(0)}, {[]int{0, 0}, binary(6), number(0)}, {[]int{0, 1}, binary(7), number(1)}, {[]int{1, 0}, binary(7), number(0)}, {[]int{0, 0}, binary(7), number(1)},
		{[]int{3, 4}, binary(8), number(1)}, {[]int{4, 3}, binary(8), number(0)}, {[]int{3, 4}, binary(9), text("aba%")}, {[]int{4, 3}, binary(9), text("a%ab")}, {[]int{5, 5}, binary(9), blob("\x00\xff\x00\xff")},
		{[]int{0, 1}, binary(10), number(9)}, {[]int{0, 1}, binary(11), number(5)}, {[]int{1, 0}, binary(11), number(-5)}, {[]int{0, 1}, binary(12), number(14)}, {[]int{0, 1}, binary(13), number(3)}, {[]int{1, 0}, binary(13), number(0)}, {[]int{0, 1}, binary(14), number(1)}, {[]int{1, 0}, binary(14), number(2)}, {[]int{2, 0}, binary(13), value{}},
		// The spans are 2 to 7 and 7 to 9, or 0 to 9 and 2 to 7.
		{[]int{1, 0, 0, 6}, four(0), number(0)}, {[]int{1, 6, 0, 6}, four(0), number(1)}, {[]int{7, 6, 1, 0}, four(0), number(1)}, {[]int{7, 6, 1, 0}, four(1), number(1)}, {[]int{1, 0, 7, 6}, four(1), number(0)}, {[]int{1, 0, 7, 2}, four(1), value{}},
	} {
		var l instrs
		for _, i := range c.slots {
			l = append(l, slot(i))
		}
		l = append(l, c.x)
		runs(t, len(l), with(nil, l...), row, c.want, api.OK, 0)
		// The same with constants.
		for i, at := range c.slots {
			l[i] = constant(at)
		}
		runs(t, len(l)+3, with(row, l...), nil, c.want, api.OK, 3)
	}
}

// TestP27_2EveryOperation has each op with each Arg and each value in each place.
func TestP27_2EveryOperation(t *testing.T) {
	l := valid()
	var extend func(row values, x instr, count int)
	extend = func(row values, x instr, count int) {
		if len(row) < count {
			some := l
			if count == 4 {
				some = values{{}, number(-1), number(2), number(5), text("a")}
			}
			for _, v := range some {
				extend(append(slices.Clone(row), v), x, count)
			}
			return
		}
		p := with(row, constant(0))
		for i := 1; i < count; i++ {
			p.Code = append(p.Code, constant(i))
		}
		p.Code = append(p.Code, x)
		want, err, rest := expected(count+1, p, nil)
		runs(t, count+1, p, nil, want, err, rest)
	}
	for op := 3; op <= 5; op++ {
		for arg := 0; ; arg++ {
			x := instr{Op: op, Arg: arg}
			_, _, count := operation(x)
			if count == 0 {
				break
			}
			extend(nil, x, count)
		}
	}
}

func TestP27_2Leaves(t *testing.T) {
	for _, v := range valid() {
		runs(t, 1, with(values{v}, constant(0)), nil, v, api.OK, 0)
		runs(t, 1, with(values{{}, v}, constant(1)), nil, v, api.OK, 0)
		runs(t, 2, with(nil, slot(0)), values{v}, v, api.OK, 1)
		runs(t, 2, with(nil, slot(2)), values{{Kind: 9}, {Int: 1}, v, {Kind: 1, Text: "a"}}, v, api.OK, 1)
		// A row that is not looked at.
		runs(t, 1, with(values{v}, constant(0)), invalid(), v, api.OK, 0)
	}
	row := make(values, 1000)
	for i := range row {
		row[i] = number(int64(i))
	}
	for _, at := range []int{0, 1, 998, 999} {
		runs(t, 1, with(nil, slot(at)), row, row[at], api.OK, 0)
		runs(t, 1, with(nil, slot(at)), row[:at], value{}, api.ErrColumn, 0)
		runs(t, 3, with(nil, slot(at), unary(0)), row[:at], value{}, api.ErrColumn, 2)
	}
	runs(t, 1, with(nil, slot(0)), nil, value{}, api.ErrColumn, 0)
	runs(t, 1, with(nil, slot(0)), values{}, value{}, api.ErrColumn, 0)
	// The values behind the end of a row are not its own.
	runs(t, 1, with(nil, slot(2)), row[:2], value{}, api.ErrColumn, 0)
	for _, v := range invalid() {
		runs(t, 1, with(nil, slot(0)), values{v}, value{}, api.ErrForm, 0)
		runs(t, 5, with(nil, slot(1), slot(0), binary(0)), values{v, number(1)}, value{}, api.ErrForm, 3)
		runs(t, 5, with(nil, slot(0), unary(2)), values{v}, value{}, api.ErrForm, 4)
	}
}

func TestP27_2Form(t *testing.T) {
	for _, p := range broken() {
		for _, fuel := range []int{0, 1, 2, 10, api.MaxFuel} {
			for _, row := range []values{nil, {number(1)}, {{Kind: 9}}} {
				runs(t, fuel, p, row, value{}, api.ErrForm, fuel)
				m := made(t, fuel)
				if is, err := m.True(p, row); is || err != api.ErrForm {
					t.Errorf("True(%.200v) = %v %v", p, is, err)
				}
				left(t, m, fuel, "True")
			}
		}
	}
}

// TestP27_2Fuel has programs of every length with every amount of fuel.
func TestP27_2Fuel(t *testing.T) {
	row := values{number(3)}
	for length := 1; length < 40; length++ {
		p := with(values{number(10)}, append(instrs{constant(0)}, times(length-1, unary(0))...)...)
		want := number(10)
		if length%2 == 0 {
			want = number(-10)
		}
		for fuel := range 45 {
			if fuel < length {
				runs(t, fuel, p, row, value{}, api.ErrFuel, 0)
				continue
			}
			runs(t, fuel, p, row, want, api.OK, fuel-length)
		}
		runs(t, api.MaxFuel, p, row, want, api.OK, api.MaxFuel-length)
	}
	p := with(values{number(7)}, constant(0), slot(0), binary(10))
	runs(t, 2, p, row, value{}, api.ErrFuel, 0)
	runs(t, 3, p, row, number(10), api.OK, 0)
	runs(t, 4, p, row, number(10), api.OK, 1)
}

// TestP27_2ErrorAndFuel has an error at every place, and fuel that ends ahead of it, at it and behind it.
func TestP27_2ErrorAndFuel(t *testing.T) {
	for _, c := range []struct {
		at  instrs
		err api.Errno
	}{
		{instrs{slot(5)}, api.ErrColumn}, {instrs{slot(1)}, api.ErrForm}, {instrs{constant(0), unary(0)}, api.ErrType}, {instrs{constant(1), constant(2), binary(13)}, api.ErrZero}, {instrs{constant(3), unary(0)}, api.ErrOver}, {instrs{constant(1), constant(1), constant(1), constant(2), four(0)}, api.ErrEmpty}, {instrs{constant(4), unary(4)}, api.ErrForm},
	} {
		consts := values{text("a"), number(1), number(0), number(math.MinInt64), text("\xff")}
		for ahead := range 6 {
			for behind := range 4 {
				l := instrs{constant(2)}
				l = append(l, times(ahead, unary(1))...)
				l = append(l, c.at...)
				place := len(l)
				l = append(append(l, times(behind, unary(2))...), binary(2))
				p, row := with(consts, l...), values{number(1), {Kind: 1, Text: "?"}}
				for fuel := range len(l) + 3 {
					if fuel < place {
						runs(t, fuel, p, row, value{}, api.ErrFuel, 0)
						continue
					}
					runs(t, fuel, p, row, value{}, c.err, fuel-place)
				}
			}
		}
	}
	// Of two errors the first one.
	runs(t, 9, with(values{text("a")}, slot(9), constant(0), unary(0), binary(2)), nil, value{}, api.ErrColumn, 8)
	runs(t, 9, with(values{text("a")}, constant(0), unary(0), slot(9), binary(2)), nil, value{}, api.ErrType, 7)
}

// TestP27_2OneMachine has several programs one after the other, with errors among them.
func TestP27_2OneMachine(t *testing.T) {
	m := made(t, 20)
	row := values{number(4)}
	sum := with(values{number(1)}, slot(0), constant(0), binary(10))
	for i, c := range []struct {
		p    program
		want value
		err  api.Errno
		rest int
	}{
		{sum, number(5), api.OK, 17}, {program{}, value{}, api.ErrForm, 17}, {with(nil, slot(0), slot(1), binary(0)), value{}, api.ErrColumn, 15}, {sum, number(5), api.OK, 12}, {with(values{text("")}, slot(0), constant(0), binary(4), unary(0)), value{}, api.ErrType, 9}, {with(nil, slot(0)), number(4), api.OK, 8},
		{sum, number(5), api.OK, 5}, {sum, number(5), api.OK, 2}, {sum, value{}, api.ErrFuel, 0}, {with(nil, slot(0)), value{}, api.ErrFuel, 0}, {program{}, value{}, api.ErrForm, 0}, {with(nil, slot(1)), value{}, api.ErrFuel, 0},
	} {
		if v, err := m.Run(c.p, row); v != c.want || err != c.err || m.Fuel() != c.rest {
			t.Errorf("%d: Run = %v %v and %d left, want %v %v and %d", i, v, err, m.Fuel(), c.want, c.err, c.rest)
		}
	}
	m = made(t, 7)
	if err := m.Spend(3); err != api.OK {
		t.Fatal(err)
	}
	if v, err := m.Run(sum, row); v != number(5) || err != api.OK || m.Fuel() != 1 {
		t.Errorf("behind Spend: %v %v and %d left", v, err, m.Fuel())
	}
	if err := m.Spend(2); err != api.ErrFuel || m.Fuel() != 0 {
		t.Errorf("Spend behind Run = %v", err)
	}
}

func TestP27_2True(t *testing.T) {
	for _, c := range []struct {
		v    value
		want bool
		err  api.Errno
	}{
		{value{}, false, api.OK}, {number(0), false, api.OK}, {number(1), true, api.OK}, {number(-1), true, api.OK}, {number(2), true, api.OK}, {number(math.MinInt64), true, api.OK}, {number(math.MaxInt64), true, api.OK}, {number(1 << 32), true, api.OK}, {number(256), true, api.OK},
		{text(""), false, api.ErrType}, {text("1"), false, api.ErrType}, {text("true"), false, api.ErrType}, {blob(""), false, api.ErrType}, {blob("\x01"), false, api.ErrType},
	} {
		for _, p := range []program{with(values{c.v}, constant(0)), with(nil, slot(0))} {
			m := made(t, 3)
			if is, err := m.True(p, values{c.v}); is != c.want || err != c.err {
				t.Errorf("True of %v = %v %v, want %v %v", c.v, is, err, c.want, c.err)
			}
			left(t, m, 2, "True")
		}
	}
	one := number(1)
	for _, c := range []struct {
		fuel int
		p    program
		want bool
		err  api.Errno
		rest int
	}{
		{0, with(values{one}, constant(0)), false, api.ErrFuel, 0}, {2, with(values{one}, constant(0), constant(0), binary(2)), false, api.ErrFuel, 0}, {3, with(values{one}, constant(0), constant(0), binary(2)), true, api.OK, 0}, {4, with(values{one}, constant(0), constant(0), binary(3)), false, api.OK, 1},
		{4, with(nil, slot(0)), false, api.ErrColumn, 3}, {4, with(values{text("a")}, constant(0), unary(1)), false, api.ErrType, 2}, {0, with(values{text("a")}, constant(0)), false, api.ErrFuel, 0}, {4, program{}, false, api.ErrForm, 4},
	} {
		m := made(t, c.fuel)
		if is, err := m.True(c.p, nil); is != c.want || err != c.err {
			t.Errorf("True(%v) = %v %v, want %v %v", c.p, is, err, c.want, c.err)
		}
		left(t, m, c.rest, "True")
	}
}

// TestP27_2Limits has the longest program, the highest stack and the most constants.
func TestP27_2Limits(t *testing.T) {
	long := with(values{number(1)}, append(instrs{constant(0)}, times(3999, unary(0))...)...)
	runs(t, 4000, long, nil, number(-1), api.OK, 0)
	runs(t, 3999, long, nil, value{}, api.ErrFuel, 0)
	var row values
	var l instrs
	for i := range 100 {
		row = append(row, number(int64(i)))
		l = append(l, slot(i))
	}
	// Each difference is of the values that were pushed last: 98 - 99, 97 less that and so on.
	high := with(nil, append(l, times(99, binary(11))...)...)
	runs(t, 199, high, row, number(-50), api.OK, 0)
	runs(t, 200, high, row[:99], value{}, api.ErrColumn, 100)
	runs(t, 99, high, row, value{}, api.ErrFuel, 0)
	var consts values
	for i := range 200 {
		consts = append(consts, number(int64(i)))
	}
	runs(t, 5, with(consts, constant(199), constant(1), binary(11)), nil, number(198), api.OK, 2)
	big := text(strings.Repeat("b", 1<<17))
	runs(t, 5, with(values{big}, constant(0), constant(0), binary(9), unary(4)), nil, number(1<<18), api.OK, 1)
	// As many programs as there is fuel for.
	m, count := made(t, api.MaxFuel), 0
	for {
		v, err := m.Run(long, nil)
		if err == api.ErrFuel {
			break
		}
		if v != number(-1) || err != api.OK {
			t.Fatalf("Run = %v %v", v, err)
		}
		count++
	}
	if count != api.MaxFuel/4000 {
		t.Errorf("%d programs", count)
	}
	left(t, m, 0, "all")
}

// TestP27_2ByChance has programs by chance on one machine after the other, held against the definition; nothing that is handed in changes.
func TestP27_2ByChance(t *testing.T) {
	next, good := chance(272), 0
	small := values{{}, number(0), number(1), number(2)}
	for i := range 20000 {
		l := small
		if i%4 == 0 {
			l = valid()
		}
		fuel := next.below(60)
		m := made(t, fuel)
		for range 3 {
			p, row := next.program([]int{1, 3, 8, 25}[next.below(4)], l), next.row(l)
			before, rowBefore := copied(p), slices.Clone(row)
			want, err, rest := expected(fuel, p, row)
			v, got := m.Run(p, row)
			if v != want || got != err || m.Fuel() != rest {
				t.Fatalf("with %d Run(%v) of %v = %v %v and %d left, want %v %v and %d", fuel, p, row, v, got, m.Fuel(), want, err, rest)
			}
			if !slices.Equal(p.Consts, before.Consts) || !slices.Equal(p.Code, before.Code) || !slices.Equal(row, rowBefore) {
				t.Fatalf("Run changed %v or %v", before, rowBefore)
			}
			if fuel = rest; err == api.OK {
				good++
			}
		}
	}
	if good < 10000 {
		t.Errorf("only %d programs have a value", good)
	}
}

// TestP27_3 has nodes by chance: their programs do what layer 23 does.
func TestP27_3(t *testing.T) {
	next, good, bad := chance(273), 0, 0
	small := values{{}, number(0), number(1), number(2)}
	for i := range 20000 {
		l := small
		if i%4 == 0 {
			l = valid()
		}
		n, row := next.node(1+next.below(4), l), next.row(l)
		p, err := compile.Compile(n)
		if err != api.OK || len(p.Code) != size(n) {
			t.Fatalf("Compile(%v) = %v %v", n, p, err)
		}
		want, wrong := eval.Value(n, row)
		truth, untrue := eval.True(n, row)
		for _, more := range []int{0, 1, 50} {
			m, other := made(t, size(n)+more), made(t, size(n)+more)
			v, err := m.Run(p, row)
			is, not := other.True(p, row)
			if v != want || err != wrong || is != truth || not != untrue || m.Fuel() != other.Fuel() {
				t.Fatalf("%v of %v: %v %v, %v %v, want %v %v, %v %v", n, row, v, err, is, not, want, wrong, truth, untrue)
			}
			if err == api.OK && m.Fuel() != more {
				t.Fatalf("%v: %d of %d left", n, m.Fuel(), size(n)+more)
			}
		}
		for fuel := range size(n) {
			m := made(t, fuel)
			if v, err := m.Run(p, row); v != (value{}) || err != api.ErrFuel && err != wrong || err == api.OK || err == api.ErrFuel && m.Fuel() != 0 {
				t.Fatalf("%v with %d: %v %v", n, fuel, v, err)
			}
		}
		if wrong == api.OK {
			good++
		} else {
			bad++
		}
	}
	if good < 4000 || bad < 4000 {
		t.Errorf("only %d with a value and %d with an error", good, bad)
	}
}

// TestP27_2Memory has results that stay as they are, and slices with something behind their ends.
func TestP27_2Memory(t *testing.T) {
	m := made(t, 100)
	consts, row, l := values{number(1), text("a"), number(8), number(9)}, values{number(2), blob("b"), number(5)}, instrs{constant(0), slot(0), binary(10), unary(0), constant(3)}
	p := program{Consts: consts[:3], Code: l[:3]}
	first, err := m.Run(p, row[:2])
	if first != number(3) || err != api.OK || m.Fuel() != 97 {
		t.Fatalf("Run = %v %v", first, err)
	}
	if !slices.Equal(consts, values{number(1), text("a"), number(8), number(9)}) || !slices.Equal(row, values{number(2), blob("b"), number(5)}) || !slices.Equal(l, instrs{constant(0), slot(0), binary(10), unary(0), constant(3)}) {
		t.Errorf("Run writes into its arguments: %v %v %v", consts, row, l)
	}
	consts[0], row[0], l[2] = number(100), number(50), binary(11)
	if v, err := m.Run(p, row[:2]); v != number(50) || err != api.OK || first != number(3) {
		t.Errorf("Run keeps its arguments: %v %v", v, err)
	}
	// A constant behind the end is none.
	if v, err := m.Run(program{Consts: consts[:3], Code: l[4:]}, row); v != (value{}) || err != api.ErrForm {
		t.Errorf("Run = %v %v", v, err)
	}
	left(t, m, 94, "Run")
}
