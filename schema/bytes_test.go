package schema_test

import (
	"bytes"
	"math"
	"strings"
	"testing"

	"hindsight/api"
	"hindsight/schema"
	"hindsight/varint"
)

// encode is the encoding of a valid table.
func encode(t *testing.T, x table) []byte {
	t.Helper()
	b, code := schema.Write(x)
	if code != api.OK {
		t.Fatalf("Write(%+v) = %v", x, code)
	}
	return b
}

// encodeIndex is the encoding of a valid index.
func encodeIndex(t *testing.T, x schema.Index) []byte {
	t.Helper()
	b, code := schema.WriteIndex(x)
	if code != api.OK {
		t.Fatalf("WriteIndex(%+v) = %v", x, code)
	}
	return b
}

// indexes are valid indexes.
func indexes() []schema.Index {
	long := strings.Repeat("i", api.MaxName)
	return []schema.Index{{"i", "t", 0}, {"t", "i", 0}, {"i", "i", 15}, {long, "t", 7}, {"i", long, 8}, {long, long, 1}, {"_", "a1", 2}, {"select", "sys_to", 3}, {"it", "t", 0}, {"i", "tt", 0}}
}

// reads reports whether b is the encoding of a table, which it must be as Write makes it.
func reads(t *testing.T, b []byte) bool {
	t.Helper()
	x, code := schema.Read(b)
	if code == api.OK {
		if !schema.Right(x) || !bytes.Equal(encode(t, x), b) {
			t.Fatalf("Read(%v) = %+v", b, x)
		}
		return true
	}
	if code != api.ErrCorrupt || !schema.Same(x, table{}) {
		t.Fatalf("Read(%v) = %+v %v", b, x, code)
	}
	return false
}

// readsIndex reports whether b is the encoding of an index, which it must be as WriteIndex makes it.
func readsIndex(t *testing.T, b []byte) bool {
	t.Helper()
	x, code := schema.ReadIndex(b)
	if code == api.OK {
		if !bytes.Equal(encodeIndex(t, x), b) {
			t.Fatalf("ReadIndex(%v) = %+v", b, x)
		}
		return true
	}
	if code != api.ErrCorrupt || x != (schema.Index{}) {
		t.Fatalf("ReadIndex(%v) = %+v %v", b, x, code)
	}
	return false
}

func TestP15_1WriteErrors(t *testing.T) {
	for i, x := range wrong() {
		if b, code := schema.Write(x); len(b) != 0 || code != api.ErrForm {
			t.Errorf("%d: Write = %v %v", i, b, code)
		}
	}
}

func TestP15_1WriteIndexErrors(t *testing.T) {
	refuses := func(x schema.Index) {
		t.Helper()
		if b, code := schema.WriteIndex(x); len(b) != 0 || code != api.ErrForm {
			t.Errorf("WriteIndex(%.100v) = %v %v", x, b, code)
		}
	}
	refuses(schema.Index{})
	for _, s := range noNames() {
		refuses(schema.Index{Name: s, Table: "t"})
		refuses(schema.Index{Name: "i", Table: s})
		refuses(schema.Index{Name: s, Table: s, Column: -1})
	}
	for _, n := range noIndices(api.MaxColumns) {
		refuses(schema.Index{Name: "i", Table: "t", Column: n})
	}
}

// TestP15_1ReadParts has parts of encodings, and what is more than one.
func TestP15_1ReadParts(t *testing.T) {
	var all []byte
	whole := func(b []byte, read func(t *testing.T, b []byte) bool) {
		all = append(all, b...)
		if !read(t, b) {
			t.Fatalf("%v is not read", b)
		}
		for i := range b {
			if read(t, b[:i]) || i > 0 && read(t, b[i:]) {
				t.Errorf("a part of %v is read", b)
			}
		}
		for c := range 256 {
			if read(t, append(bytes.Clone(b), byte(c))) || read(t, append([]byte{byte(c)}, b...)) {
				t.Errorf("more than %v is read", b)
			}
		}
	}
	for _, x := range tables() {
		whole(encode(t, x), reads)
	}
	for _, x := range indexes() {
		whole(encodeIndex(t, x), readsIndex)
	}
	for _, b := range [][]byte{nil, {}, all} {
		if reads(t, b) || readsIndex(t, b) {
			t.Errorf("%d bytes that are no encoding are read", len(b))
		}
	}
}

// TestP15_1ReadChanged has encodings with a byte that is another one, is missing, or is put in.
func TestP15_1ReadChanged(t *testing.T) {
	changed := func(b []byte, read func(t *testing.T, b []byte) bool) {
		same := 0
		for i := range b {
			for c := range 256 {
				x := bytes.Clone(b)
				x[i] = byte(c)
				if read(t, x) {
					same++
				}
				read(t, append(append(bytes.Clone(b[:i]), byte(c)), b[i:]...))
			}
			read(t, append(bytes.Clone(b[:i]), b[i+1:]...))
		}
		if same < len(b) || same > len(b)*64 {
			t.Errorf("%d changes of %v are read", same, b)
		}
	}
	for _, x := range tables() {
		changed(encode(t, x), reads)
	}
	for _, x := range indexes() {
		changed(encodeIndex(t, x), readsIndex)
	}
}

// TestP15_1ReadGreat has great integers, and longer encodings of small ones, in place of each byte.
func TestP15_1ReadGreat(t *testing.T) {
	var parts [][]byte
	for _, n := range []uint64{128, 255, 256, 1 << 16, 1<<31 - 1, 1 << 31, 1<<32 - 2, 1 << 32, 1<<32 + 2, 1<<33 + 2, math.MaxInt64, 1 << 63, math.MaxUint64 - 1, math.MaxUint64} {
		parts = append(parts, varint.Put(n))
	}
	parts = append(parts, bytes.Repeat([]byte{255}, 9), bytes.Repeat([]byte{255}, 30), bytes.Repeat([]byte{128}, 9), append(bytes.Repeat([]byte{128}, 9), 0))
	for i, x := range tables() {
		b := encode(t, x)
		z := encodeIndex(t, indexes()[i%len(indexes())])
		for i, c := range b {
			for _, p := range append(parts, []byte{c | 128, 0}, []byte{c | 128, 128, 0}) {
				if reads(t, append(append(bytes.Clone(b[:i]), p...), b[i+1:]...)) {
					t.Fatalf("%v with %v at %d is read", b, p, i)
				}
			}
		}
		for i, c := range z {
			for _, p := range append(parts, []byte{c | 128, 0}, []byte{c | 128, 128, 0}) {
				if readsIndex(t, append(append(bytes.Clone(z[:i]), p...), z[i+1:]...)) {
					t.Fatalf("%v with %v at %d is read", z, p, i)
				}
			}
		}
	}
}

// TestP15_1ReadAny has short bytes of all kinds, and longer ones by chance.
func TestP15_1ReadAny(t *testing.T) {
	for a := range 256 {
		for b := range 256 {
			for _, l := range [][]byte{{byte(a)}, {byte(a), byte(b)}, {1, byte(a), byte(b)}, {2, byte(a), byte(b)}, {4, byte(a), byte(b)}} {
				if reads(t, l) || readsIndex(t, l) {
					t.Errorf("%v is read", l)
				}
			}
		}
	}
	next := chance(2)
	for range 100000 {
		b := make([]byte, next.below(60))
		for i := range b {
			b[i] = byte(next.below(256) >> next.below(8))
		}
		reads(t, b)
		readsIndex(t, b)
	}
}

// TestP15_1ReadOther has encodings of the other kind.
func TestP15_1ReadOther(t *testing.T) {
	for _, x := range tables() {
		if readsIndex(t, encode(t, x)) {
			t.Errorf("%+v is read as an index", x)
		}
	}
	for _, x := range indexes() {
		if reads(t, encodeIndex(t, x)) {
			t.Errorf("%+v is read as a table", x)
		}
	}
}

func TestP15_3Tables(t *testing.T) {
	seen := map[string]table{}
	hold := func(x table) {
		b := encode(t, x)
		y, code := schema.Read(b)
		if code != api.OK || !equal(x, y) {
			t.Fatalf("Read of %+v = %+v %v", x, y, code)
		}
		if z, is := seen[string(b)]; is && !equal(x, z) {
			t.Fatalf("%+v and %+v have one encoding", x, z)
		}
		seen[string(b)] = x
		if len(b) > api.MaxRecord/8 {
			t.Errorf("%d bytes", len(b))
		}
	}
	for _, x := range tables() {
		hold(x)
	}
	next := chance(3)
	for range 20000 {
		if x := next.table(); schema.Right(x) {
			hold(x)
		}
	}
	if len(seen) < 1000 {
		t.Errorf("%d tables", len(seen))
	}
}

func TestP15_3Indexes(t *testing.T) {
	seen := map[string]schema.Index{}
	for _, a := range indexes() {
		for _, b := range indexes() {
			for n := range api.MaxColumns {
				x := schema.Index{Name: a.Name, Table: b.Table, Column: n}
				z := encodeIndex(t, x)
				if y, code := schema.ReadIndex(z); y != x || code != api.OK {
					t.Errorf("ReadIndex of %+v = %+v %v", x, y, code)
				}
				if y, is := seen[string(z)]; is && y != x {
					t.Errorf("%+v and %+v have one encoding", x, y)
				}
				seen[string(z)] = x
			}
		}
	}
}

// TestP15_3Memory holds that tables and bytes share no memory.
func TestP15_3Memory(t *testing.T) {
	x := apart()
	b := encode(t, x)
	y, _ := schema.Read(b)
	clear(x.Columns)
	clear(x.Key)
	if !bytes.Equal(encode(t, apart()), b) {
		t.Error("the bytes change with the table")
	}
	clear(b)
	if !equal(y, apart()) {
		t.Error("the table changes with the bytes")
	}
	z, _ := schema.Read(encode(t, apart()))
	clear(y.Columns)
	clear(y.Key)
	if !equal(z, apart()) {
		t.Error("two tables share memory")
	}
}
