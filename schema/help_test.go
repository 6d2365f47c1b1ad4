package schema_test

import (
	"math"
	"regexp"
	"slices"
	"strings"

	"hindsight/api"
	"hindsight/cell"
	"hindsight/schema"
)

// Short names for what the tests make by the dozen.
type (
	table   = schema.Table
	columns = []schema.Column
	row     = []api.Value
)

var null = api.Value{}

func number(n int64) api.Value { return api.Value{Kind: api.Int, Int: n} }
func text(s string) api.Value  { return api.Value{Kind: api.Text, Text: s} }
func blob(s string) api.Value  { return api.Value{Kind: api.Blob, Text: s} }

// plain is a table of two columns.
func plain() table {
	return table{Name: "t", Columns: columns{{"a", api.Int, true}, {"b", api.Text, false}}, Key: []int{0}, From: -1, To: -1}
}

// booked is a table with a period.
func booked() table {
	return table{
		Name:    "room",
		Columns: columns{{"since", api.Int, true}, {"id", api.Text, true}, {"note", api.Blob, false}, {"until", api.Int, true}},
		Key:     []int{1}, Period: "stay", From: 0, To: 3,
	}
}

// apart is a table whose rows with the same key may not overlap.
func apart() table { return with(booked(), func(t *table) { t.Apart = true }) }

// with is t with a change; t stays as it is.
func with(t table, change func(t *table)) table {
	t.Columns, t.Key = slices.Clone(t.Columns), slices.Clone(t.Key)
	change(&t)
	return t
}

// wide is a table of so many columns, of which so many are its key, in reverse order; the names are as long as they can be.
func wide(count, keys int) table {
	t := table{Name: strings.Repeat("w", api.MaxName), From: -1, To: -1}
	for i := range count {
		name := strings.Repeat("c", api.MaxName-1) + string(rune('a'+i))
		t.Columns = append(t.Columns, schema.Column{Name: name, Kind: uint8(1 + i%3), NotNull: i < keys})
	}
	for i := range keys {
		t.Key = append(t.Key, keys-1-i)
	}
	return t
}

// numbers is a table of eight integers that are its key, and of two that can be its period.
func numbers() table {
	t := table{Name: "n", From: -1, To: -1}
	for i := range 10 {
		t.Columns = append(t.Columns, schema.Column{Name: string(rune('a' + i)), Kind: api.Int, NotNull: true})
	}
	t.Key = []int{0, 1, 2, 3, 4, 5, 6, 7}
	return t
}

// tables are valid tables, no two of them the same.
func tables() []table {
	return []table{
		plain(), booked(), apart(), wide(1, 1), wide(16, 8), wide(16, 1), wide(8, 8), wide(9, 8), numbers(),
		with(plain(), func(t *table) { t.Versioned = true }),
		with(booked(), func(t *table) { t.Versioned = true }),
		with(apart(), func(t *table) { t.Versioned = true }),
		with(booked(), func(t *table) { t.From, t.To = t.To, t.From }),
		with(apart(), func(t *table) { t.From, t.To = t.To, t.From }),
		with(booked(), func(t *table) { t.Key = []int{3, 1, 0} }),
		with(booked(), func(t *table) { t.Key = []int{0} }),
		with(booked(), func(t *table) { t.Period, t.From, t.To = "", -1, -1 }),
		with(booked(), func(t *table) { t.Period = "room" }),
		with(booked(), func(t *table) { t.Period = "p" }),
		with(booked(), func(t *table) { t.Period = strings.Repeat("p", api.MaxName) }),
		// The names of the system's columns are those of no columns, and only of these.
		with(booked(), func(t *table) { t.Period = "sys_from" }),
		with(booked(), func(t *table) { t.Period = "sys_to" }),
		with(plain(), func(t *table) { t.Name = "sys_from" }),
		with(plain(), func(t *table) { t.Name = "sys_to" }),
		with(plain(), func(t *table) { t.Name = "a" }),
		with(plain(), func(t *table) { t.Name = "_" }),
		with(plain(), func(t *table) { t.Name = "select" }),
		with(plain(), func(t *table) { t.Columns[0].Name = "sys_fro" }),
		with(plain(), func(t *table) { t.Columns[0].Name = "sys_too" }),
		with(plain(), func(t *table) { t.Columns[0].Name = "a_1" }),
		with(plain(), func(t *table) { t.Columns[0].Name = "t" }),
		with(plain(), func(t *table) { t.Columns[0].Kind = api.Text }),
		with(plain(), func(t *table) { t.Columns[0].Kind = api.Blob }),
		with(plain(), func(t *table) { t.Columns[1].Kind = api.Blob }),
		with(plain(), func(t *table) { t.Columns[1].NotNull = true }),
		with(plain(), func(t *table) { t.Columns[1].NotNull, t.Key = true, []int{1} }),
		with(plain(), func(t *table) { t.Columns[1].NotNull, t.Key = true, []int{0, 1} }),
		with(plain(), func(t *table) { t.Columns[1].NotNull, t.Key = true, []int{1, 0} }),
	}
}

// noNames are not names in canonical form.
func noNames() []string {
	return []string{
		"", "A", "aB", "T", "1", "1a", "a b", " a", "a ", "a-b", "a.b", "'a'", "\u00e4", "a\u00e4", "a\x00", "\x00", "a\n", "\xff", "a\xff",
		strings.Repeat("a", api.MaxName+1), strings.Repeat("a", 256), strings.Repeat("a", 1<<20),
	}
}

// noIndices are not indices of that many things.
func noIndices(count int) []int {
	return []int{-1, -2, count, count + 1, count + 256, count + 1<<16, 1 << 31, 1<<32 - 1, 1 << 32, math.MaxInt, math.MinInt}
}

// changes make a table with a period that is valid one that is not.
func changes() []func(t *table) {
	l := []func(t *table){
		func(t *table) { *t = table{} },
		func(t *table) { t.Columns = nil },
		func(t *table) { t.Columns = columns{} },
		func(t *table) { t.Key = nil },
		func(t *table) { t.Key = []int{} },
		func(t *table) { t.Columns = append(t.Columns, wide(16, 0).Columns[len(t.Columns)-1:]...) },
		func(t *table) { t.Columns = append(t.Columns, make(columns, 100)...) },
		func(t *table) { t.Key = append(t.Key, t.Key[0]) },
		func(t *table) { t.Key = slices.Repeat(t.Key, 9) },
		func(t *table) { t.To = t.From },
		func(t *table) { t.From = t.To },
		func(t *table) { t.From, t.To = -1, -1 },
		func(t *table) { t.Period, t.From, t.To = "", 0, 0 },
		func(t *table) { t.Period, t.From = "", -1 },
		func(t *table) { t.Period, t.To = "", -1 },
		func(t *table) { t.Period, t.Apart = "", true },
		func(t *table) { t.Period, t.From, t.To, t.Apart = "", -1, -1, true },
		func(t *table) { t.Apart, t.Key = true, append(t.Key, t.From) },
		func(t *table) { t.Apart, t.Key = true, append(t.Key, t.To) },
		func(t *table) { t.Apart, t.Key = true, []int{t.From} },
		func(t *table) { t.Apart, t.Key = true, []int{t.To} },
		func(t *table) { t.Columns[t.Key[0]].NotNull = false },
		func(t *table) { t.Columns[t.From].NotNull = false },
		func(t *table) { t.Columns[t.To].NotNull = false },
		func(t *table) { t.Columns[t.From].Kind = api.Text },
		func(t *table) { t.Columns[t.To].Kind = api.Blob },
	}
	for _, s := range noNames() {
		l = append(l, func(t *table) { t.Name = s }, func(t *table) { t.Columns[0].Name = s }, func(t *table) { t.Columns[3].Name = s })
		if s != "" {
			l = append(l, func(t *table) { t.Period = s })
		}
	}
	for i := range booked().Columns {
		l = append(l, func(t *table) { t.Period = t.Columns[i].Name })
		for _, s := range []string{"sys_from", "sys_to"} {
			l = append(l, func(t *table) { t.Columns[i].Name = s })
		}
		for _, kind := range []uint8{api.Null, 4, 5, 16, 128, 255} {
			l = append(l, func(t *table) { t.Columns[i].Kind = kind })
		}
		for j := range i {
			l = append(l, func(t *table) { t.Columns[i].Name = t.Columns[j].Name })
		}
	}
	for _, i := range noIndices(4) {
		l = append(l, func(t *table) { t.From = i }, func(t *table) { t.To = i }, func(t *table) { t.Key[0] = i }, func(t *table) { t.Key = append(t.Key, i) })
	}
	return l
}

// wrong are tables that are not valid.
func wrong() []table {
	var l []table
	for _, change := range changes() {
		l = append(l, with(booked(), change))
	}
	return append(l,
		wide(17, 1), wide(17, 8), wide(16, 9), wide(9, 9), wide(16, 16), wide(16, 0), wide(0, 0),
		with(plain(), func(t *table) { t.Apart = true }),
		with(plain(), func(t *table) { t.From = 0 }),
		with(plain(), func(t *table) { t.To = 0 }),
		with(plain(), func(t *table) { t.From, t.To = 0, 0 }),
		with(plain(), func(t *table) { t.From, t.To = -2, -2 }),
		with(plain(), func(t *table) { t.Key = []int{1} }),
		with(plain(), func(t *table) { t.Key = []int{0, 1} }),
		with(plain(), func(t *table) { t.Period = "p" }),
		with(plain(), func(t *table) { t.Columns[1].Name = "a" }),
	)
}

var nameForm = regexp.MustCompile(`^[a-z_][a-z_0-9]{0,19}$`)

// isTable reports by the definition whether t is valid.
func isTable(t table) bool {
	names, keys := map[string]bool{}, map[int]bool{}
	for _, c := range t.Columns {
		if !nameForm.MatchString(c.Name) || names[c.Name] || c.Name == "sys_from" || c.Name == "sys_to" || !slices.Contains([]uint8{1, 2, 3}, c.Kind) {
			return false
		}
		names[c.Name] = true
	}
	for _, k := range t.Key {
		if k < 0 || k >= len(t.Columns) || keys[k] || !t.Columns[k].NotNull {
			return false
		}
		keys[k] = true
	}
	ok := nameForm.MatchString(t.Name) && len(names) >= 1 && len(names) <= 16 && len(keys) >= 1 && len(keys) <= 8
	if t.Period == "" {
		return ok && t.From == -1 && t.To == -1 && !t.Apart
	}
	for _, i := range []int{t.From, t.To} {
		ok = ok && i >= 0 && i < len(t.Columns) && t.Columns[i].Kind == 1 && t.Columns[i].NotNull && (!t.Apart || !keys[i])
	}
	return ok && t.From != t.To && nameForm.MatchString(t.Period) && !names[t.Period]
}

// parts are the values of Key, and of From if t is Apart.
func parts(t table, r row) row {
	var l row
	for _, k := range t.Key {
		l = append(l, r[k])
	}
	if t.Apart {
		l = append(l, r[t.From])
	}
	return l
}

// keySize is the number of bytes of the key of values.
func keySize(l row) int {
	n := 0
	for _, v := range l {
		switch v.Kind {
		case api.Int:
			n += 9
		default:
			n += 3 + len(v.Text) + strings.Count(v.Text, "\x00")
		}
	}
	return n
}

// errorOf is the error of a row by the definition.
func errorOf(t table, r row) api.Errno {
	if !isTable(t) {
		return api.ErrForm
	}
	if len(r) != len(t.Columns) {
		return api.ErrArg
	}
	for i, v := range r {
		switch c := t.Columns[i]; {
		case !cell.Right(v):
			return api.ErrForm
		case v == null && c.NotNull:
			return api.ErrNull
		case v != null && v.Kind != c.Kind:
			return api.ErrType
		}
	}
	if t.Period != "" && r[t.From].Int >= r[t.To].Int {
		return api.ErrEmpty
	}
	if keySize(parts(t, r)) > 80 {
		return api.ErrLong
	}
	return api.OK
}

// chance is a sequence of numbers that is the same in every run.
type chance uint64

// below is the next number, from 0 to n - 1.
func (c *chance) below(n int) int {
	*c = *c*6364136223846793005 + 1442695040888963407
	return int(uint64(*c)>>33) % n
}

// name is a next name, of a few.
func (c *chance) name() string {
	l := []string{"a", "b", "c", "_", "a_1", "sys_from", "sys_to", "select", "x9", "A", "", "d", "e", "f", "g", "h"}
	return l[c.below(len(l))]
}

// table is a next table, which is valid if it happens to be.
func (c *chance) table() table {
	l := tables()
	t := l[c.below(len(l))]
	for range c.below(4) {
		switch i := c.below(len(t.Columns)); c.below(12) {
		case 0:
			t.Name = c.name()
		case 1:
			t.Columns[i].Name = c.name()
		case 2:
			t.Columns[i].Kind = uint8(c.below(5))
		case 3:
			t.Columns[i].NotNull = !t.Columns[i].NotNull
		case 4:
			t.Columns = append(t.Columns, schema.Column{Name: c.name(), Kind: uint8(1 + c.below(3)), NotNull: true})
		case 5:
			t.Key = append(t.Key, c.below(len(t.Columns)))
		case 6:
			t.Key[c.below(len(t.Key))] = c.below(len(t.Columns))
		case 7:
			t.Period = c.name()
		case 8:
			t.From = c.below(len(t.Columns)+2) - 1
		case 9:
			t.To = c.below(len(t.Columns)+2) - 1
		case 10:
			t.Apart = !t.Apart
		case 11:
			t.Versioned = !t.Versioned
		}
	}
	return t
}

// value is a next value for a column, mostly one that may be in it.
func (c *chance) value(kind uint8, most int) api.Value {
	wrong := row{null, number(1), text("a"), blob("a"), {Int: 1}, {Kind: 4}, {Kind: api.Text, Int: 1}, {Kind: api.Int, Text: "a"}}
	if c.below(12) == 0 {
		return wrong[c.below(len(wrong))]
	}
	if kind == api.Int {
		return number(int64(c.below(5) - 2))
	}
	return api.Value{Kind: kind, Text: strings.Repeat([]string{"a", "\x00", "b\x00", "\xff"}[c.below(4)], c.below(most))}
}

// row is a next row for t, which is valid if it happens to be.
func (c *chance) row(t table) row {
	var r row
	for _, x := range t.Columns {
		r = append(r, c.value(x.Kind, 1+60/len(t.Columns)))
	}
	switch c.below(20) {
	case 0:
		r = append(r, number(1))
	case 1:
		r = r[1:]
	}
	return r
}
