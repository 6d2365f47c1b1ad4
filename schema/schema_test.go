package schema_test

import (
	"math"
	"slices"
	"strings"
	"testing"

	"hindsight/api"
	"hindsight/schema"
)

func TestP15_1Right(t *testing.T) {
	for _, x := range tables() {
		if !schema.Right(x) {
			t.Errorf("%+v is not valid", x)
		}
	}
	for i, x := range wrong() {
		if schema.Right(x) {
			t.Errorf("%d: %.500v is valid", i, x)
		}
	}
}

// TestP15_1RightByDefinition holds tables with random changes against the definition.
func TestP15_1RightByDefinition(t *testing.T) {
	next := chance(1)
	good := 0
	for range 30000 {
		x := next.table()
		is := schema.Right(x)
		if is != isTable(x) {
			t.Fatalf("Right(%+v) = %v", x, is)
		}
		if is {
			good++
		}
	}
	if good < 5000 || good > 25000 {
		t.Errorf("%d tables are valid", good)
	}
}

// TestP15_1RightNames has every byte in every place of a name.
func TestP15_1RightNames(t *testing.T) {
	for i := range 3 {
		for c := range 256 {
			b := []byte("xyz")
			b[i] = byte(c)
			s := string(b)
			for what, x := range map[string]table{
				"table":  with(booked(), func(t *table) { t.Name = s }),
				"column": with(booked(), func(t *table) { t.Columns[2].Name = s }),
				"period": with(booked(), func(t *table) { t.Period = s }),
			} {
				if is := schema.Right(x); is != nameForm.MatchString(s) {
					t.Errorf("Right with the %s %q = %v", what, s, is)
				}
			}
		}
	}
}

func TestP15_1Same(t *testing.T) {
	l := append(tables(), wrong()...)
	l = append(l, with(booked(), func(t *table) { t.Columns = slices.Repeat(t.Columns, 2) }), with(booked(), func(t *table) { t.Key = []int{1, 0, 3} }))
	for i, a := range l {
		for j, b := range l {
			// Some changes make a table that another one makes as well.
			want := i == j || equal(a, b)
			if is := schema.Same(a, with(b, func(*table) {})); is != want {
				t.Fatalf("Same(%.500v, %.500v) = %v", a, b, is)
			}
		}
	}
}

// equal reports by each field whether a and b are equal.
func equal(a, b table) bool {
	if len(a.Columns) != len(b.Columns) || len(a.Key) != len(b.Key) {
		return false
	}
	for i, c := range a.Columns {
		if d := b.Columns[i]; c.Name != d.Name || c.Kind != d.Kind || c.NotNull != d.NotNull {
			return false
		}
	}
	for i, k := range a.Key {
		if k != b.Key[i] {
			return false
		}
	}
	return a.Name == b.Name && a.Period == b.Period && a.From == b.From && a.To == b.To && a.Apart == b.Apart && a.Versioned == b.Versioned
}

func TestP15_1SameEachField(t *testing.T) {
	for i, change := range []func(t *table){
		func(t *table) { t.Name = "other" },
		func(t *table) { t.Name = "ROOM" },
		func(t *table) { t.Columns[2].Name = "other" },
		func(t *table) { t.Columns[2].Kind = api.Text },
		func(t *table) { t.Columns[2].NotNull = true },
		func(t *table) { t.Columns[1], t.Columns[2] = t.Columns[2], t.Columns[1] },
		func(t *table) { t.Columns = t.Columns[:3] },
		func(t *table) { t.Columns = append(t.Columns, schema.Column{}) },
		func(t *table) { t.Key = []int{2} },
		func(t *table) { t.Key = append(t.Key, 1) },
		func(t *table) { t.Key = nil },
		func(t *table) { t.Period = "other" },
		func(t *table) { t.Period = "" },
		func(t *table) { t.From = 1 },
		func(t *table) { t.To = 1 },
		func(t *table) { t.Apart = true },
		func(t *table) { t.Versioned = true },
	} {
		x := with(booked(), change)
		if schema.Same(booked(), x) || schema.Same(x, booked()) || !schema.Same(x, x) {
			t.Errorf("%d: %+v is the same", i, x)
		}
	}
	// An empty slice may be nil or not.
	if !schema.Same(table{}, table{Columns: columns{}, Key: []int{}}) || !schema.Same(table{Columns: columns{}, Key: []int{}}, table{}) {
		t.Error("tables without columns are not the same")
	}
}

func TestP15_1Find(t *testing.T) {
	for _, x := range append(tables(), booked()) {
		for i, c := range x.Columns {
			if at := schema.Find(x, c.Name); at != i {
				t.Errorf("Find(%q) = %d, want %d", c.Name, at, i)
			}
		}
		for _, s := range []string{"", "none", "sys_from", "sys_to", x.Columns[0].Name + "0", strings.ToUpper(x.Columns[0].Name + "a"), "\xff", strings.Repeat("a", 1000)} {
			if at := schema.Find(x, s); at != -1 {
				t.Errorf("Find(%q) = %d", s, at)
			}
		}
	}
	for _, s := range []string{"room", "stay", "SINCE", "Since", " since", "since "} {
		if at := schema.Find(booked(), s); at != -1 {
			t.Errorf("Find(%q) = %d", s, at)
		}
	}
}

// TestP15_1FindWrong has tables that are not valid, in which the names are found all the same.
func TestP15_1FindWrong(t *testing.T) {
	x := table{Columns: columns{{Name: "b"}, {Name: "A"}, {}, {Name: "b", Kind: 9}, {Name: "sys_to"}}}
	for s, want := range map[string]int{"b": 0, "A": 1, "": 2, "sys_to": 4, "a": -1, "c": -1} {
		if at := schema.Find(x, s); at != want {
			t.Errorf("Find(%q) = %d, want %d", s, at, want)
		}
	}
	if at := schema.Find(table{}, ""); at != -1 {
		t.Errorf("Find without columns = %d", at)
	}
	if at := schema.Find(wide(100, 0), wide(100, 0).Columns[99].Name); at != 99 {
		t.Errorf("Find of the last one = %d", at)
	}
}

// TestP1 has all functions take what is not valid.
func TestP1(t *testing.T) {
	rows := []row{nil, {}, {null}, {{Kind: 255, Int: -1, Text: "a"}}, make(row, 4), make(row, 100), {number(1), text("a"), null, number(2)}}
	for _, x := range append(wrong(), tables()...) {
		for _, r := range rows {
			schema.Check(x, r)
			schema.KeyOf(x, r)
			schema.FrontOf(x, r)
			schema.SpanOf(x, r)
		}
		schema.Write(x)
		schema.Find(x, "a")
	}
	for _, n := range []int{math.MinInt, -1, math.MaxInt} {
		schema.WriteIndex(schema.Index{Name: "a", Table: "a", Column: n})
		x := table{Name: "t", Columns: columns{{"a", api.Int, true}}, Key: []int{n}, From: n, To: n, Period: "p", Apart: true}
		schema.Right(x)
		schema.Check(x, row{number(1)})
		schema.SpanOf(x, row{number(1)})
	}
}
