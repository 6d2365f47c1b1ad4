package catalog

import (
	"hindsight/api"
	"hindsight/fixed"
	"hindsight/schema"
)

// Where the parts of the value of an entry are; its table is behind them.
const (
	historyAt = 2
	markAt    = 4
	tableAt   = markAt + fixed.WholeSize
)

// indexAt is where the index of an index entry is, behind its root page.
const indexAt = 2

// writeEntry is the value of x, and whether x is valid.
func writeEntry(x Entry) ([]byte, bool) {
	t, err := schema.Write(x.Table)
	if err != api.OK || !hasRoots(x) {
		return nil, false
	}
	b := make([]byte, tableAt)
	fixed.Put(b[:historyAt], x.Current)
	fixed.Put(b[historyAt:markAt], x.History)
	mark := fixed.Whole(x.Mark)
	copy(b[markAt:], mark[:])
	return append(b, t...), true
}

// readEntry is the entry of the table with that name, and whether b is its value.
func readEntry(name string, b []byte) (Entry, bool) {
	if len(b) < tableAt {
		return Entry{}, false
	}
	t, err := schema.Read(b[tableAt:])
	x := Entry{
		Table:   t,
		Current: fixed.Get(b[:historyAt]),
		History: fixed.Get(b[historyAt:markAt]),
		Mark:    fixed.ReadWhole([fixed.WholeSize]byte(b[markAt:tableAt])),
	}
	if err != api.OK || !hasRoots(x) || t.Name != name {
		return Entry{}, false
	}
	return x, true
}

// writeIndexEntry is the value of x, and whether x is valid.
func writeIndexEntry(x IndexEntry) ([]byte, bool) {
	i, err := schema.WriteIndex(x.Index)
	if err != api.OK || !isRoot(x.Root) {
		return nil, false
	}
	b := make([]byte, indexAt)
	fixed.Put(b, x.Root)
	return append(b, i...), true
}

// readIndexEntry is the index entry with that name, and whether b is its value.
func readIndexEntry(name string, b []byte) (IndexEntry, bool) {
	if len(b) < indexAt {
		return IndexEntry{}, false
	}
	i, err := schema.ReadIndex(b[indexAt:])
	x := IndexEntry{i, fixed.Get(b[:indexAt])}
	if err != api.OK || !isRoot(x.Root) || i.Name != name {
		return IndexEntry{}, false
	}
	return x, true
}

// hasRoots reports whether the trees of x can be where it says.
func hasRoots(x Entry) bool { return isRoot(x.Current) && (x.History == 0 || isRoot(x.History)) }

// isRoot reports whether a page can be that of a tree.
func isRoot(page int) bool { return page >= 1 && page < api.MaxPages }
