package typing

import (
	"slices"

	"hindsight/api"
	"hindsight/schema"
)

// columns are the columns of s, with those of the system.
func columns(s Source) []schema.Column {
	l := slices.Clone(s.Table.Columns)
	if s.Table.Versioned {
		l = append(l, schema.Column{Name: "sys_from", Kind: api.Int}, schema.Column{Name: "sys_to", Kind: api.Int})
	}
	return l
}

// all are the columns of a scope, one for each slot.
func all(scope []Source) []schema.Column {
	var l []schema.Column
	for _, s := range scope {
		l = append(l, columns(s)...)
	}
	return l
}

// Slots is the number of slots of a scope.
func Slots(scope []Source) int { return len(all(scope)) }

// Kinds is the kind of each slot.
func Kinds(scope []Source) []uint8 {
	var l []uint8
	for _, c := range all(scope) {
		l = append(l, c.Kind)
	}
	return l
}

// Names is the name of each slot.
func Names(scope []Source) []string {
	var l []string
	for _, c := range all(scope) {
		l = append(l, c.Name)
	}
	return l
}

// Slot is the slot of the column with that name, in the sources with the name table if there is one.
func Slot(scope []Source, table, name string) (int, api.Errno) {
	next, found, slot := 0, 0, 0
sources:
	for _, s := range scope {
		for _, c := range columns(s) {
			if c.Name == name && (table == "" || s.As == table) {
				slot = next
				found++
			}
			// A second one is an error, whatever follows.
			if found > 1 {
				break sources
			}
			next++
		}
	}
	if found != 1 {
		return 0, api.ErrColumn
	}
	return slot, api.OK
}
