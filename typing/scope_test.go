package typing_test

import (
	"slices"
	"strings"
	"testing"

	"hindsight/api"
	"hindsight/schema"
	"hindsight/typing"
)

func TestP22_1Slots(t *testing.T) {
	for i, c := range []struct {
		l     scope
		kinds []uint8
		names string
	}{
		{nil, nil, ""},
		{scope{}, nil, ""},
		{scope{{}}, nil, ""},
		{scope{{As: "t", Table: schema.Table{Versioned: true}}}, []uint8{1, 1}, "sys_from sys_to"},
		{scope{from("t", "i", false)}, []uint8{1}, "a"},
		{scope{from("t", "i", true)}, []uint8{1, 1, 1}, "a sys_from sys_to"},
		{letters(), []uint8{1, 2, 3}, "i t b"},
		{scope{from("t", "bt", true), from("u", "ti", false), from("v", "b", true)}, []uint8{3, 2, 1, 1, 2, 1, 3, 1, 1}, "a b sys_from sys_to a b a sys_from sys_to"},
		{scope{from("t", "i", false), from("t", "i", false)}, []uint8{1, 1}, "a a"},
		{scope{from("", "ii", true, "a", "a")}, []uint8{1, 1, 1, 1}, "a a sys_from sys_to"},
		// By hand, with kinds that no column has.
		{scope{{Table: schema.Table{Columns: []schema.Column{{Name: "A B"}, {Kind: 4}, {Name: "'", Kind: 255}}}}}, []uint8{0, 4, 255}, "A B||'"},
	} {
		names := strings.Fields(c.names)
		if strings.Contains(c.names, "|") {
			names = strings.Split(c.names, "|")
		}
		if n := typing.Slots(c.l); n != len(c.kinds) {
			t.Errorf("%d: Slots = %d", i, n)
		}
		if l := typing.Kinds(c.l); !slices.Equal(l, c.kinds) {
			t.Errorf("%d: Kinds = %v, want %v", i, l, c.kinds)
		}
		if l := typing.Names(c.l); !slices.Equal(l, names) {
			t.Errorf("%d: Names = %v, want %v", i, l, names)
		}
	}
}

func TestP22_1Slot(t *testing.T) {
	const none = -1
	two := scope{from("t", "it", true, "a", "b"), from("u", "ib", false, "a", "c")}
	same := scope{from("t", "it", false, "a", "b"), from("t", "ib", false, "a", "c")}
	both := scope{from("t", "i", true), from("u", "i", true, "b")}
	for i, c := range []struct {
		l           scope
		table, name string
		want        int
	}{
		{nil, "", "a", none}, {nil, "t", "a", none}, {nil, "", "", none}, {scope{{}}, "", "a", none}, {scope{{}}, "", "", none},
		{letters(), "", "i", 0}, {letters(), "", "t", 1}, {letters(), "", "b", 2}, {letters(), "u", "i", 0}, {letters(), "u", "b", 2},
		{letters(), "", "a", none}, {letters(), "", "", none}, {letters(), "u", "a", none}, {letters(), "v", "i", none}, {letters(), "i", "i", none}, {letters(), "", "I", none}, {letters(), "U", "i", none}, {letters(), "", "sys_from", none}, {letters(), "", "sys_to", none}, {letters(), "", "u.i", none}, {letters(), "u", "", none}, {letters(), "", " i", none},
		// The name of the table does not matter beside that of the source.
		{letters(), "t", "i", none},
		{two, "", "a", none}, {two, "t", "a", 0}, {two, "u", "a", 4}, {two, "", "b", 1}, {two, "", "c", 5}, {two, "t", "c", none}, {two, "u", "b", none}, {two, "u", "c", 5}, {two, "", "sys_from", 2}, {two, "", "sys_to", 3}, {two, "t", "sys_to", 3}, {two, "u", "sys_from", none},
		{both, "", "sys_from", none}, {both, "t", "sys_from", 1}, {both, "u", "sys_from", 4}, {both, "u", "sys_to", 5}, {both, "", "a", 0}, {both, "", "b", 3},
		// Sources with equal names.
		{same, "", "a", none}, {same, "t", "a", none}, {same, "t", "b", 1}, {same, "t", "c", 3}, {same, "", "c", 3},
		// A source without a name, and columns with equal names.
		{scope{from("", "i", false)}, "", "a", 0}, {scope{from("", "i", false)}, "t", "a", none}, {scope{from("t", "ii", false, "a", "a")}, "", "a", none}, {scope{from("t", "ii", false, "a", "a")}, "t", "a", none}, {scope{from("t", "iii", false, "a", "b", "a")}, "t", "b", 1},
		{scope{from("t", "i", true, "sys_from")}, "", "sys_from", none}, {scope{from("t", "i", true, "sys_from")}, "", "sys_to", 2}, {scope{from("t", "i", false, "sys_from")}, "", "sys_from", 0},
		{scope{from("t", "i", false), from("u", "i", false), from("v", "i", false)}, "", "a", none}, {scope{from("t", "i", false), from("u", "i", false), from("v", "i", false)}, "v", "a", 2},
		{scope{from("t", "i", false, "")}, "", "", 0}, {scope{from("t", "i", false, "")}, "t", "", 0},
	} {
		want, code := c.want, api.OK
		if want == none {
			want, code = 0, api.ErrColumn
		}
		if n, err := typing.Slot(c.l, c.table, c.name); n != want || err != code {
			t.Errorf("%d: Slot(%q, %q) = %d %v, want %d %v", i, c.table, c.name, n, err, want, code)
		}
	}
}

// scope is a next scope, with names that are often equal.
func (c *chance) scope() scope {
	var l scope
	for range c.below(5) {
		kinds, names := "", []string{}
		for range c.below(4) {
			kinds += string("itb"[c.below(3)])
			names = append(names, c.of([]string{"a", "b", "c", "d", "sys_from"}))
		}
		l = append(l, from(c.of([]string{"t", "u", "v", "w", ""}), kinds, c.below(2) == 0, names...))
	}
	return l
}

// TestP22_1ByDefinition has scopes by chance, and each name in them.
func TestP22_1ByDefinition(t *testing.T) {
	next := chance(2)
	for range 3000 {
		l := next.scope()
		var sources, names []string
		var kinds []uint8
		for _, s := range l {
			own := s.Table.Columns
			if s.Table.Versioned {
				own = append(own[:len(own):len(own)], schema.Column{Name: "sys_from", Kind: 1}, schema.Column{Name: "sys_to", Kind: 1})
			}
			for _, x := range own {
				sources, names, kinds = append(sources, s.As), append(names, x.Name), append(kinds, x.Kind)
			}
		}
		if typing.Slots(l) != len(names) || !slices.Equal(typing.Kinds(l), kinds) || !slices.Equal(typing.Names(l), names) {
			t.Fatalf("%v: %d, %v, %v", l, typing.Slots(l), typing.Kinds(l), typing.Names(l))
		}
		for _, table := range []string{"", "t", "u", "v", "w", "x"} {
			for _, name := range []string{"a", "b", "c", "d", "e", "sys_from", "sys_to", ""} {
				var found []int
				for i := range names {
					if names[i] == name && (table == "" || sources[i] == table) {
						found = append(found, i)
					}
				}
				n, err := typing.Slot(l, table, name)
				if len(found) == 1 && (n != found[0] || err != api.OK) || len(found) != 1 && (n != 0 || err != api.ErrColumn) {
					t.Fatalf("%v: Slot(%q, %q) = %d %v, want %v", l, table, name, n, err, found)
				}
			}
		}
	}
}

// TestP22_5 holds that what is found is also found with the name of its source.
func TestP22_5(t *testing.T) {
	next := chance(4)
	for range 2000 {
		l := next.scope()
		var owners []string
		for _, s := range l {
			owners = append(owners, slices.Repeat([]string{s.As}, typing.Slots(scope{s}))...)
		}
		for _, name := range typing.Names(l) {
			n, err := typing.Slot(l, "", name)
			if err != api.OK {
				continue
			}
			if m, err := typing.Slot(l, owners[n], name); m != n || err != api.OK {
				t.Fatalf("%v: %q is at %d, and with its source at %d %v", l, name, n, m, err)
			}
		}
	}
}

// TestP1Scopes holds that scopes are left as they are, that results share no memory with them, and that nothing behind a list is read or written.
func TestP1Scopes(t *testing.T) {
	l := scope{from("t", "it", true), from("u", "b", true)}
	columns := append(l[0].Table.Columns, schema.Column{Name: "z", Kind: 3})
	l[0].Table.Columns = columns[:2]
	wide := append(l, from("v", "i", false, "y"))
	l = wide[:2]
	for range 2 {
		names, kinds := typing.Names(l), typing.Kinds(l)
		if strings.Join(names, " ") != "a b sys_from sys_to a sys_from sys_to" || !slices.Equal(kinds, []uint8{1, 2, 1, 1, 3, 1, 1}) {
			t.Errorf("%v %v", names, kinds)
		}
		for i := range names {
			names[i], kinds[i] = "q", 9
		}
		for _, name := range []string{"z", "y", "q"} {
			if _, err := typing.Slot(l, "", name); err != api.ErrColumn {
				t.Errorf("%s is found", name)
			}
		}
	}
	if columns[2].Name != "z" || wide[2].As != "v" {
		t.Errorf("%v, %v", columns, wide)
	}
}
