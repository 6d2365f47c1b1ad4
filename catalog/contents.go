package catalog

import (
	"maps"
	"slices"

	"hindsight/api"
	"hindsight/walk"
)

// The key of an entry is its mark, followed by its name.
const (
	tableMark = "t"
	indexMark = "x"
)

// contents is what a catalog has, by names.
type contents struct {
	tables  map[string]Entry
	indexes map[string]IndexEntry
	err     api.Errno // of the entries that cannot be read: they are there, as the keys have their names, but empty
}

// read is what the catalog has.
func (c *Catalog) read() (contents, api.Errno) {
	if !c.made() {
		return contents{}, api.ErrNil
	}
	has := contents{tables: map[string]Entry{}, indexes: map[string]IndexEntry{}}
	err := c.visit(func(key string, v []byte, err api.Errno) { has.fail(has.add(key, v, err)) })
	return has, err
}

// withTable is what a catalog has that must have a table with that name.
func (c *Catalog) withTable(name string) (contents, api.Errno) {
	has, err := c.read()
	if err != api.OK {
		return contents{}, err
	}
	if _, is := has.tables[name]; !is {
		return contents{}, api.ErrTable
	}
	return has, api.OK
}

// readable is what a catalog has, of which all entries must have been read.
func readable(has contents, err api.Errno) (contents, api.Errno) {
	if err == api.OK {
		err = has.err
	}
	if err != api.OK {
		return contents{}, err
	}
	return has, api.OK
}

// visit calls see with each key of the tree, and with its value or the error of reading that.
func (c *Catalog) visit(see func(key string, v []byte, err api.Errno)) api.Errno {
	for at, err := range walk.Pairs(c.tree, "") {
		if err != api.OK {
			return err
		}
		v, code := at.Value()
		see(at.Key(), v, code)
	}
	return api.OK
}

// add adds the entry of a key, of which v is the value unless there is an error, and returns its error.
func (x *contents) add(key string, v []byte, err api.Errno) api.Errno {
	ok := false
	switch name := key[1:]; key[:1] {
	case tableMark:
		x.tables[name], ok = readEntry(name, v)
	case indexMark:
		x.indexes[name], ok = readIndexEntry(name, v)
	}
	if err == api.OK && !ok {
		err = api.ErrCorrupt
	}
	return err
}

// fail keeps the error of an entry, the first one but for those that are malformed, which come last.
func (x *contents) fail(err api.Errno) {
	if err != api.OK && (x.err == api.OK || x.err == api.ErrCorrupt) {
		x.err = err
	}
}

// indexesOf is the index entries of a table, ordered by their names.
func (x *contents) indexesOf(table string) []IndexEntry {
	var l []IndexEntry
	for _, name := range slices.Sorted(maps.Keys(x.indexes)) {
		if e := x.indexes[name]; e.Index.Table == table {
			l = append(l, e)
		}
	}
	return l
}
