package version

import (
	"iter"

	"hindsight/api"
	"hindsight/btree"
	"hindsight/cursor"
	"hindsight/schema"
	"hindsight/walk"
)

// found is a version, and its key in the tree in which it is.
type found struct {
	Row
	place string
}

// versions are those that a tree has, in the order of their keys in it. An error is yielded last, with no version.
type versions = iter.Seq2[found, api.Errno]

// split is the key and the To that are in a version's key in its tree, and whether there are any.
type split func(place string) (string, int64, bool)

// currents yields the current versions whose keys begin with front.
func (s *Store) currents(front string) versions {
	return s.visit(s.current, front, func(place string) (string, int64, bool) { return place, Now, true })
}

// pasts yields the past versions.
func (s *Store) pasts() versions { return s.visit(s.history, "", splitPlace) }

// visit yields the versions of a tree whose keys in it begin with front.
func (s *Store) visit(t *btree.Tree, front string, parts split) versions {
	return func(yield func(found, api.Errno) bool) {
		for at, err := range walk.Pairs(t, front) {
			var x found
			if err == api.OK {
				x, err = s.read(at, parts)
			}
			if !yield(x, err) || err != api.OK {
				return
			}
		}
	}
}

// read is the version at which a cursor is.
func (s *Store) read(at *cursor.Cursor, parts split) (found, api.Errno) {
	key, to, ok := parts(at.Key())
	b, err := at.Value()
	if err == api.OK && !ok {
		err = api.ErrCorrupt
	}
	if err != api.OK {
		return found{}, err
	}
	r, err := s.row(key, to, b)
	if err != api.OK {
		return found{}, err
	}
	return found{r, at.Key()}, api.OK
}

// row is the version of a key, of which b is what its tree has.
func (s *Store) row(key string, to int64, b []byte) (Row, api.Errno) {
	r, ok := decode(b)
	if !ok {
		return Row{}, api.ErrCorrupt
	}
	// A row that is not valid has no key: it is left to the check of the whole database.
	if own, err := schema.KeyOf(s.table, r.Values); err == api.OK && string(own) != key {
		return Row{}, api.ErrCorrupt
	}
	r.To = to
	return r, api.OK
}

// seen is those of the versions that a view includes.
func seen(v View, l versions) ([]Row, api.Errno) {
	var rows []Row
	for x, err := range l {
		if err != api.OK {
			return nil, err
		}
		if Sees(v, x.Row) {
			rows = append(rows, x.Row)
		}
	}
	return rows, api.OK
}
