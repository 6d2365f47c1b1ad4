package code_test

import (
	"bytes"
	"slices"
	"strings"
	"testing"

	"hindsight/api"
	"hindsight/code"
	"hindsight/record"
	"hindsight/varint"
)

// written is the encoding of p, which has one.
func written(t *testing.T, p program) []byte {
	t.Helper()
	b, err := code.Write(p)
	if len(b) == 0 || err != api.OK {
		t.Fatalf("Write of %.300v = %.100v %v", p, b, err)
	}
	return b
}

// misses holds that Read of b is ErrForm.
func misses(t *testing.T, b []byte) {
	t.Helper()
	if p, err := code.Read(b); p.Consts != nil || p.Code != nil || err != api.ErrForm {
		t.Errorf("Read of %.200v = %.200v %v", b, p, err)
	}
}

// trip holds that p is written and read back.
func trip(t *testing.T, p program) []byte {
	t.Helper()
	b := written(t, p)
	q, err := code.Read(b)
	if err != api.OK || !slices.Equal(p.Consts, q.Consts) || !slices.Equal(p.Code, q.Code) {
		t.Fatalf("%.300v is read as %.300v %v", p, q, err)
	}
	return b
}

// kept holds that b is read as the program that is written like this, or not at all.
func kept(t *testing.T, b []byte) bool {
	t.Helper()
	p, err := code.Read(b)
	if err == api.OK {
		if again := written(t, p); !bytes.Equal(again, b) {
			t.Fatalf("%v is read as %v, which is written as %v", b, p, again)
		}
		return true
	}
	misses(t, b)
	return false
}

// longest is the text or the blob that alone is just a row, and so many bytes more.
func longest(kind uint8, more int) value {
	return value{Kind: kind, Text: strings.Repeat("z", api.MaxRecord-4+more)}
}

func TestP25_2Trips(t *testing.T) {
	for _, v := range append(valid(), longest(2, 0), longest(3, 0), longest(2, -1)) {
		trip(t, with(v, constant(0)))
		trip(t, with(v, slot(0)))
		trip(t, program{values{v, {}, v}, instrs{constant(2), constant(1), binary(0)}})
	}
	trip(t, program{slices.Repeat(values{longest(2, 0)}, 200), instrs{constant(199)}})
	for _, p := range []program{of(slot(0)), of(slot(999)), {many(200), instrs{constant(199)}}, long(4000), deep(100), with(number(7), constant(0), slot(1), binary(10))} {
		trip(t, p)
	}
	for op := 3; op <= 5; op++ {
		for arg := range names(op) {
			trip(t, of(append(times(pops(instr{op, arg}, 0), slot(200)), instr{op, arg})...))
		}
	}
}

func TestP25_2WriteErrors(t *testing.T) {
	long8 := longest(2, 1)
	for _, c := range []struct {
		p    program
		want api.Errno
	}{
		{program{}, api.ErrForm}, {with(number(1)), api.ErrForm}, {of(slot(1000)), api.ErrForm}, {of(slot(-1)), api.ErrForm}, {of(constant(0)), api.ErrForm}, {of(instr{6, 0}), api.ErrForm}, {of(slot(0), instr{3, 5}), api.ErrForm}, {of(slot(0), slot(0)), api.ErrForm}, {of(slot(0), binary(0)), api.ErrForm}, {deep(101), api.ErrForm}, {long(4001), api.ErrForm}, {program{many(201), instrs{slot(0)}}, api.ErrForm}, {with(value{Int: 1}, slot(0)), api.ErrForm},
		// A constant that alone is not a row, wherever it stands and whether it is used or not.
		{with(long8, constant(0)), api.ErrLong}, {with(longest(3, 1), constant(0)), api.ErrLong}, {with(long8, slot(0)), api.ErrLong}, {with(longest(3, 1<<17), constant(0)), api.ErrLong}, {program{values{{}, long8}, instrs{constant(0)}}, api.ErrLong}, {program{values{long8, {}}, instrs{constant(1)}}, api.ErrLong}, {program{append(many(199), long8), instrs{constant(0)}}, api.ErrLong},
		// One that is not valid goes before that.
		{with(long8, constant(1)), api.ErrForm}, {with(long8), api.ErrForm}, {program{values{long8, {Kind: 4}}, instrs{constant(0)}}, api.ErrForm}, {with(value{Kind: 2, Int: 1, Text: long8.Text}, constant(0)), api.ErrForm}, {program{append(many(200), long8), instrs{constant(0)}}, api.ErrForm}, {with(long8, slot(0), slot(0)), api.ErrForm},
	} {
		if b, err := code.Write(c.p); b != nil || err != c.want {
			t.Errorf("Write of %.200v = %.100v %v, want %v", c.p, b, err, c.want)
		}
	}
	for _, v := range invalid() {
		if b, err := code.Write(with(v, constant(0))); b != nil || err != api.ErrForm {
			t.Errorf("Write with %v = %v %v", v, b, err)
		}
	}
}

// TestP25_2Bytes has encodings with a byte more, less or changed.
func TestP25_2Bytes(t *testing.T) {
	for _, p := range []program{
		with(number(7), constant(0), slot(1), binary(10)), of(slot(0)), of(slot(999), unary(4)), of(slot(200), slot(1), slot(2), slot(300), four(1)),
		{values{{}, number(-300), text("ab"), blob("\x00"), text("")}, instrs{constant(4), constant(1), binary(2)}}, {many(130), instrs{constant(129)}}, long(130), with(text(strings.Repeat("a", 130)), constant(0)),
	} {
		b := written(t, p)
		for i := range b {
			misses(t, b[:i])
			// Less by a byte anywhere.
			kept(t, slices.Delete(slices.Clone(b), i, i+1))
		}
		step := 1 + len(b)/60*25 // fewer bytes for long encodings
		for c := 0; c < 256; c += step {
			misses(t, append(slices.Clone(b), byte(c)))
			for i := range b {
				kept(t, slices.Insert(slices.Clone(b), i, byte(c)))
				changed := slices.Clone(b)
				changed[i] = byte(c)
				if !kept(t, changed) && b[i] == byte(c) {
					t.Fatalf("%v is not read", b)
				}
			}
		}
		misses(t, append(slices.Clone(b), b...))
	}
	misses(t, nil)
	misses(t, []byte{})
	misses(t, []byte{1}[:0])
}

// TestP25_2AllShort has all short lists of some bytes.
func TestP25_2AllShort(t *testing.T) {
	count := 0
	var extend func(b []byte, some []byte, length int)
	extend = func(b []byte, some []byte, length int) {
		if kept(t, b) {
			count++
		}
		if length == 0 {
			return
		}
		for _, c := range some {
			extend(append(b[:len(b):len(b)], c), some, length-1)
		}
	}
	extend(nil, []byte{0, 1, 2, 3, 4, 5, 128, 129, 255}, 6)
	extend(nil, []byte{0, 1, 2, 3}, 8)
	if count < 20 {
		t.Errorf("only %d of them are read", count)
	}
}

// layout is bytes as Write makes them, of rows for the constants and of anything for the rest.
func layout(count int, rows []string, length int, l ...uint64) []byte {
	b := varint.Put(uint64(count))
	for _, row := range rows {
		b = append(b, varint.PutText(row)...)
	}
	b = append(b, varint.Put(uint64(length))...)
	for _, x := range l {
		b = append(b, varint.Put(x)...)
	}
	return b
}

// rowOf is the row of some values.
func rowOf(l ...value) string {
	b, _ := record.Write(l)
	return string(b)
}

// TestP25_2Layout has bytes that are laid out like an encoding, but of things that no program has.
func TestP25_2Layout(t *testing.T) {
	seven := rowOf(number(7))
	good := layout(1, []string{seven}, 3, 1, 0, 2, 1, 4, 10)
	if b := written(t, with(number(7), constant(0), slot(1), binary(10))); !bytes.Equal(b, good) {
		t.Fatalf("the test itself is wrong about the layout: %v, not %v", b, good)
	}
	null := rowOf(value{})
	for _, b := range [][]byte{
		layout(0, nil, 0), layout(1, []string{seven}, 0), layout(0, nil, 1, 1, 0), layout(0, nil, 1, 2, 1000), layout(0, nil, 1, 2, 1<<63), layout(0, nil, 1, 2, 1<<64-1), layout(0, nil, 1, 2, 1<<32), layout(0, nil, 1, 256+2, 0), layout(0, nil, 1, 0, 0), layout(0, nil, 1, 6, 0), layout(0, nil, 1, 1<<32+2, 0), layout(0, nil, 1, 1<<64-1, 0), layout(0, nil, 1, 3, 0), layout(0, nil, 1, 4, 0), layout(0, nil, 1, 5, 0),
		layout(0, nil, 2, 2, 0, 2, 0), layout(0, nil, 2, 2, 0, 3, 5), layout(0, nil, 2, 2, 0, 4, 0), layout(0, nil, 3, 2, 0, 2, 0, 4, 15), layout(0, nil, 5, 2, 0, 2, 0, 2, 0, 2, 0, 5, 2), layout(1, []string{null}, 1, 1, 1), layout(0, nil, 1, 2, 0, 2, 0), layout(0, nil, 2, 2, 0), layout(0, nil, 1, 2), layout(0, nil, 1),
		// Constants that are no rows of one value.
		layout(1, []string{""}, 1, 2, 0), layout(1, []string{rowOf()}, 1, 2, 0), layout(1, []string{rowOf(value{}, value{})}, 1, 2, 0), layout(1, []string{null + "\x00"}, 1, 2, 0), layout(1, []string{"\x01\x04"}, 1, 2, 0), layout(1, []string{"\x01\x01\x80\x00"}, 1, 2, 0), layout(1, []string{"\x81\x00\x00"}, 1, 2, 0), layout(1, []string{seven[:2]}, 1, 2, 0), layout(1, []string{"\x01\x02" + string(varint.PutText(longest(2, 1).Text))}, 1, 2, 0),
		// Other numbers of constants than there are.
		layout(0, []string{null}, 1, 2, 0), layout(2, []string{null}, 1, 2, 0), layout(1, nil, 1, 2, 0), layout(201, slices.Repeat([]string{null}, 201), 1, 2, 0), layout(1<<62, []string{null}, 1, 2, 0), layout(-1, []string{null}, 1, 2, 0),
		// And of instructions.
		layout(0, nil, 1<<62, 2, 0), layout(0, nil, -1, 2, 0), layout(0, nil, 4001, append([]uint64{2, 0}, slices.Repeat([]uint64{3, 0}, 4000)...)...), layout(0, nil, 3, 2, 0, 3, 0),
		// Numbers that have a shorter encoding.
		{128, 0, 1, 2, 0}, {0, 129, 0, 2, 0}, {0, 1, 130, 0, 0}, {0, 1, 2, 128, 0}, {1, 130, 0, 1, 0, 1, 2, 0},
		{128}, {255, 255, 255, 255, 255, 255, 255, 255, 255, 255}, {0, 255, 255, 255, 255, 255, 255, 255, 255, 255, 1}, {1, 255, 255, 255, 255, 255, 255, 255, 255, 255, 1},
	} {
		misses(t, b)
	}
	for _, b := range [][]byte{layout(200, slices.Repeat([]string{null}, 200), 1, 1, 199), layout(0, nil, 4000, append([]uint64{2, 0}, slices.Repeat([]uint64{3, 0}, 3999)...)...), layout(1, []string{rowOf(longest(2, 0))}, 1, 2, 999)} {
		if !kept(t, b) {
			t.Errorf("%.100v is not read", b)
		}
	}
	// A stack of 101 values.
	high := append(slices.Repeat([]uint64{2, 0}, 101), slices.Repeat([]uint64{4, 0}, 100)...)
	misses(t, layout(0, nil, 201, high...))
	if !kept(t, layout(0, nil, 199, high[2:len(high)-2]...)) {
		t.Errorf("a stack of 100 values is not read")
	}
}

// TestP25_3 has programs by chance: each has one encoding, and no two have the same.
func TestP25_3(t *testing.T) {
	next, seen := chance(253), map[string]program{}
	for i := range 20000 {
		p := next.program([]int{0, 1, 4, 30}[i%4])
		b := trip(t, p)
		if again := written(t, copied(p)); !bytes.Equal(b, again) {
			t.Fatalf("%v is written as %v and as %v", p, b, again)
		}
		if other, is := seen[string(b)]; is && !code.Same(other, p) {
			t.Fatalf("%v and %v are both written as %v", p, other, b)
		}
		seen[string(b)] = p
		if i%50 > 0 {
			continue
		}
		at := next.below(len(b))
		misses(t, b[:at])
		changed := slices.Clone(b)
		changed[at] += byte(1 + next.below(255))
		kept(t, changed)
	}
	if len(seen) < 8000 {
		t.Errorf("only %d programs", len(seen))
	}
}

// TestP25_3Memory has results and arguments that share no memory, and bytes behind the end of a slice.
func TestP25_3Memory(t *testing.T) {
	p := program{values{number(7), text("ab"), blob("cd")}, instrs{constant(0), constant(1), binary(2)}}
	b := written(t, p)
	whole := slices.Clone(b)
	q, _ := code.Read(b)
	clear(b)
	if !code.Same(p, q) {
		t.Errorf("Read keeps its argument: %v", q)
	}
	b = written(t, q)
	again := written(t, q)
	clear(q.Consts)
	clear(q.Code)
	clear(again)
	if !bytes.Equal(b, whole) {
		t.Errorf("Write keeps its argument or gives the same memory twice: %v", b)
	}
	first, _ := code.Read(whole)
	second, _ := code.Read(whole)
	clear(first.Consts)
	clear(first.Code)
	if !code.Same(second, p) || !bytes.Equal(whole, b) {
		t.Errorf("Read gives the same memory twice: %v", second)
	}
	longer := append(slices.Clone(whole), 5, 6, 7)
	if q, err := code.Read(longer[:len(whole)]); err != api.OK || !code.Same(p, q) || !bytes.Equal(longer[len(whole):], []byte{5, 6, 7}) {
		t.Errorf("Read sees what stands behind the end: %v %v", q, err)
	}
	for cut := range whole {
		misses(t, whole[:cut])
	}
}
