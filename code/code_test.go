package code_test

import (
	"math"
	"slices"
	"strconv"
	"strings"
	"testing"

	"hindsight/code"
)

// holds holds Right and High of p.
func holds(t *testing.T, p program, high int) {
	t.Helper()
	if right, got := code.Right(p), code.High(p); right != (high > 0) || got != high {
		t.Errorf("of %.300v: Right is %v, High %d, want %d", p, right, got, high)
	}
}

func TestP25_1Right(t *testing.T) {
	seven := number(7)
	for _, c := range []struct {
		p    program
		high int
	}{
		{with(seven, constant(0), slot(1), binary(10)), 2}, // the chapter's example
		{program{}, 0}, {of(), 0}, {program{Code: instrs{}, Consts: values{}}, 0}, {with(seven), 0},
		{with(seven, constant(0)), 1}, {of(slot(0)), 1}, {with(seven, slot(5)), 1}, {of(constant(0)), 0}, {with(seven, constant(1)), 0}, {with(seven, constant(-1)), 0},
		{of(slot(999)), 1}, {of(slot(1000)), 0}, {of(slot(-1)), 0}, {of(slot(998), slot(999), binary(0)), 2}, {of(slot(math.MaxInt)), 0}, {of(slot(math.MinInt)), 0},
		// One that pops all there is, and more.
		{of(unary(0)), 0}, {of(slot(0), unary(0)), 1}, {of(slot(0), unary(0), unary(4), unary(3)), 1},
		{of(binary(0)), 0}, {of(slot(0), binary(0)), 0}, {of(slot(0), slot(0), binary(0)), 2}, {of(slot(0), slot(0), slot(0), binary(0), binary(0)), 3}, {of(slot(0), slot(0), binary(0), binary(0)), 0}, {of(slot(0), slot(0), binary(0), slot(0), binary(0)), 2},
		{of(four(0)), 0}, {of(slot(0), slot(0), slot(0), four(0)), 0}, {of(slot(0), slot(0), slot(0), slot(0), four(0)), 4}, {of(slot(0), slot(0), slot(0), slot(0), four(1), unary(1), slot(1), binary(1)), 4},
		{of(unary(0), slot(0)), 0}, {of(slot(0), binary(0), slot(0)), 0}, {of(slot(0), slot(0), four(1), slot(0), slot(0), slot(0)), 0},
		// None is left, two, or more.
		{of(slot(0), slot(0)), 0}, {of(slot(0), slot(0), slot(0)), 0}, {of(slot(0), slot(0), slot(0), binary(0)), 0}, {of(slot(0), slot(0), slot(0), slot(0), slot(0), four(0)), 0}, {of(slot(0), slot(0), slot(0), slot(0), slot(0), four(0), binary(2)), 5},
		// What stands behind the end of the slices is not there.
		{program{Code: instrs{slot(0), binary(0), unary(9)}[:1], Consts: values{{}, {Kind: 9}}[:1]}, 1}, {program{Code: instrs{slot(0)}[:0]}, 0}, {program{Code: instrs{constant(0)}, Consts: values{{}}[:0]}, 0},
	} {
		holds(t, c.p, c.high)
	}
}

func TestP25_1Ops(t *testing.T) {
	args := []int{math.MinInt, -1 << 32, -2, -1, 0, 1, 2, 3, 4, 5, 6, 13, 14, 15, 16, 198, 199, 200, 201, 998, 999, 1000, 1001, 1 << 32, math.MaxInt}
	ops := []int{math.MinInt, -5, -1, 0, 1, 2, 3, 4, 5, 6, 7, 256 + 1, 1<<32 + 2, math.MaxInt}
	for _, op := range ops {
		for _, arg := range args {
			for _, consts := range []int{0, 1, 2, 199, 200} {
				for before := range 7 {
					p := program{many(consts), append(times(before, slot(0)), instr{op, arg})}
					count, high := pops(instr{op, arg}, consts), 0
					if count >= 0 && before-count == 0 {
						high = max(1, before)
					}
					holds(t, p, high)
				}
			}
		}
	}
}

func TestP25_1Limits(t *testing.T) {
	for _, c := range []struct {
		p    program
		high int
	}{
		{program{many(200), instrs{constant(199)}}, 1}, {program{many(200), instrs{constant(200)}}, 0}, {program{many(201), instrs{constant(0)}}, 0}, {program{many(201), instrs{slot(0)}}, 0}, {program{many(201), instrs{constant(200)}}, 0}, {program{many(5000), instrs{slot(0)}}, 0}, {program{slices.Repeat(values{{}}, 200), instrs{slot(0)}}, 1}, {program{slices.Repeat(values{{}}, 201), instrs{slot(0)}}, 0},
		{long(1), 1}, {long(3999), 1}, {long(4000), 1}, {long(4001), 0}, {long(9000), 0},
		{deep(1), 1}, {deep(99), 99}, {deep(100), 100}, {deep(101), 0}, {deep(2000), 0},
		// Of the same length as valid ones, but higher at another place.
		{of(append(append(times(99, slot(0)), unary(0), slot(1), unary(0)), times(99, binary(0))...)...), 100}, {of(append(append(times(99, slot(0)), unary(0), slot(1), slot(2), unary(0)), times(100, binary(0))...)...), 0},
		{of(append(append(times(100, slot(0)), four(0), slot(0), slot(0), slot(0)), times(99, binary(0))...)...), 100}, {of(append(append(times(100, slot(0)), four(0), slot(0), slot(0), slot(0), slot(0)), times(100, binary(0))...)...), 0}, {of(append(append(times(101, slot(0)), four(0)), times(97, binary(0))...)...), 0},
		{of(append(instrs{slot(0)}, times(1999, slot(0), binary(3))...)...), 2}, {of(append(instrs{slot(0)}, times(2000, slot(0), binary(3))...)...), 0},
	} {
		holds(t, c.p, c.high)
	}
}

func TestP25_1Constants(t *testing.T) {
	for _, v := range append(valid(), text(strings.Repeat("a", 1<<17)), blob(strings.Repeat("\x00", 1<<17))) {
		holds(t, with(v, constant(0)), 1)
		holds(t, with(v, slot(0)), 1)
		holds(t, program{values{v, v}, instrs{constant(1), constant(0), binary(2)}}, 2)
	}
	for _, v := range invalid() {
		holds(t, with(v, constant(0)), 0)
		holds(t, with(v, slot(0)), 0)
		for i := range 3 {
			p := program{many(3), instrs{constant(i)}}
			p.Consts[i] = v
			holds(t, p, 0)
			p.Code[0] = slot(0)
			holds(t, p, 0)
		}
		p := program{many(200), instrs{slot(0)}}
		p.Consts[199] = v
		holds(t, p, 0)
	}
}

// TestP25_1AllShort has all short programs of some instructions, held against the definition.
func TestP25_1AllShort(t *testing.T) {
	some := instrs{constant(0), constant(1), slot(7), unary(2), binary(4), four(1), {}, {6, 0}}
	var extend func(p program, length int)
	extend = func(p program, length int) {
		holds(t, p, slices.Max(append(heights(p), 0)))
		if length == 0 {
			return
		}
		for _, x := range some {
			extend(program{p.Consts, append(p.Code[:len(p.Code):len(p.Code)], x)}, length-1)
		}
	}
	extend(program{values{number(1)}, nil}, 5)
	// Without those that there are not, longer ones.
	some = instrs{slot(7), unary(2), binary(4), four(1)}
	extend(program{}, 8)
}

// TestP25_1ByChance has valid programs, and such with a change, held against the definition; nothing that is handed in changes.
func TestP25_1ByChance(t *testing.T) {
	next := chance(25)
	for i := range 20000 {
		p := next.program([]int{3, 10, 60, 400}[i%4])
		holds(t, p, slices.Max(heights(p)))
		switch at := next.below(len(p.Code)); next.below(4) {
		case 0:
			p.Code = slices.Delete(p.Code, at, at+1)
		case 1:
			p.Code = slices.Insert(p.Code, at, next.instr(len(p.Consts)))
		case 2:
			p.Code[at] = next.instr(len(p.Consts) + 1)
		case 3:
			p.Code[at].Arg += next.below(16)
		}
		before := copied(p)
		holds(t, p, slices.Max(append(heights(p), 0)))
		if !slices.Equal(p.Consts, before.Consts) || !slices.Equal(p.Code, before.Code) {
			t.Fatalf("%v was changed", before)
		}
	}
}

func TestP25_1Same(t *testing.T) {
	one := with(number(1), constant(0))
	different := []program{
		{}, of(slot(0)), of(slot(1)), of(constant(0)), of(slot(0), slot(0)), of(slot(0), unary(0)), of(unary(0), slot(0)), of(instr{}), of(instr{9, -4}), of(instr{-4, 9}),
		one, with(number(1)), with(number(1), constant(1)), with(number(2), constant(0)), with(text("1"), constant(0)), with(blob("1"), constant(0)), with(value{}, constant(0)), with(value{Kind: 9}, constant(0)), with(value{Kind: 1, Int: 1, Text: "a"}, constant(0)),
		{values{number(1), number(2)}, instrs{constant(0)}}, {values{number(2), number(1)}, instrs{constant(0)}}, {values{number(1), number(1)}, instrs{constant(0)}}, {values{{}, {}}, nil}, {values{{}}, nil},
		long(4000), long(4001), deep(101), {many(201), nil}, {many(200), nil},
	}
	for i, a := range different {
		for j, b := range different {
			if same := code.Same(a, copied(b)); same != (i == j) {
				t.Errorf("Same of %.200v and %.200v is %v", a, b, same)
			}
		}
	}
	for _, p := range []program{{nil, instrs{}}, {values{}, nil}, {values{}, instrs{}}, {values{{}}[:0], instrs{slot(0)}[:0]}} {
		if !code.Same(p, program{}) || !code.Same(program{}, p) {
			t.Errorf("%v is not the empty program", p)
		}
	}
	if a, b := append(instrs{slot(0)}, slot(1)), append(instrs{slot(0)}, slot(2)); !code.Same(of(a[:1]...), of(b[:1]...)) {
		t.Errorf("Same sees what stands behind the end")
	}
}

func TestP25_2Text(t *testing.T) {
	for _, c := range []struct {
		p    program
		want string
	}{
		{with(number(7), constant(0), slot(1), binary(10)), "const 0\nslot 1\nbinary +\n"},
		{of(slot(0)), "slot 0\n"}, {of(slot(999)), "slot 999\n"}, {of(slot(10)), "slot 10\n"}, {program{many(200), instrs{constant(199), constant(20), binary(14)}}, "const 199\nconst 20\nbinary %\n"},
		{of(slot(1), slot(2), slot(3), slot(4), four(0)), "slot 1\nslot 2\nslot 3\nslot 4\nfour overlaps\n"}, {of(slot(1), slot(2), slot(3), slot(4), four(1)), "slot 1\nslot 2\nslot 3\nslot 4\nfour contains\n"},
		{with(text("const 5\n"), constant(0), unary(3)), "const 0\nunary is not null\n"}, {with(value{}, constant(0)), "const 0\n"},
		{program{}, ""}, {of(), ""}, {of(slot(1000)), ""}, {of(slot(-1)), ""}, {of(constant(0)), ""}, {of(slot(0), unary(5)), ""}, {of(slot(0), instr{6, 0}), ""}, {of(instr{}), ""}, {of(instr{0, 0}, slot(0)), ""}, {of(slot(0), slot(1)), ""}, {of(unary(0)), ""}, {of(slot(0), binary(0)), ""}, {with(value{Kind: 4}, constant(0)), ""}, {deep(101), ""}, {long(4001), ""}, {program{many(201), instrs{slot(0)}}, ""},
		{long(4000), "slot 0\n" + strings.Repeat("unary not\n", 3999)}, {deep(100), strings.Repeat("slot 3\n", 100) + strings.Repeat("binary +\n", 99)},
	} {
		if got := code.Text(c.p); got != c.want {
			t.Errorf("Text of %.200v is %.200q, want %.200q", c.p, got, c.want)
		}
	}
	for op, name := range []string{3: "unary ", 4: "binary ", 5: "four "} {
		if op < 3 {
			continue
		}
		for arg, operation := range names(op) {
			count := pops(instr{op, arg}, 0)
			p := of(append(times(count, slot(8)), instr{op, arg})...)
			if got, want := code.Text(p), strings.Repeat("slot 8\n", count)+name+operation+"\n"; got != want {
				t.Errorf("Text of %v is %q, want %q", p, got, want)
			}
		}
	}
}

// instructions are those of a text, by the chapter's definition; nothing if it is no text.
func instructions(s string) instrs {
	var l instrs
	for line := range strings.Lines(s) {
		op, rest, _ := strings.Cut(strings.TrimSuffix(line, "\n"), " ")
		x := instr{1 + slices.Index([]string{"const", "slot", "unary", "binary", "four"}, op), 0}
		if x.Op <= 2 {
			x.Arg, _ = strconv.Atoi(rest)
		} else {
			x.Arg = slices.Index(names(x.Op), rest)
		}
		l = append(l, x)
	}
	return l
}

// TestP25_2TextByChance has the texts of programs read again.
func TestP25_2TextByChance(t *testing.T) {
	next := chance(252)
	for range 3000 {
		p := next.program(30)
		s := code.Text(p)
		if !slices.Equal(instructions(s), p.Code) || strings.Count(s, "\n") != len(p.Code) || !strings.HasSuffix(s, "\n") {
			t.Fatalf("Text of %v is %q", p, s)
		}
	}
}

// TestP25_4 has all beginnings of valid programs.
func TestP25_4(t *testing.T) {
	next := chance(254)
	for i := range 3000 {
		p := next.program([]int{5, 40, 300}[i%3])
		high := code.High(p)
		if most := slices.Max(heights(p)); high != most {
			t.Fatalf("High of %v is %d, want %d", p, high, most)
		}
		for at, height := range heights(p) {
			// With so many values on the stack, one fewer binary instructions make one of them.
			beginning := program{p.Consts, append(slices.Clone(p.Code[:at+1]), times(height-1, binary(0))...)}
			if height < 1 || height > high || !code.Right(beginning) || code.High(beginning) > high {
				t.Fatalf("the first %d of %v leave %d", at+1, p, height)
			}
		}
	}
}
