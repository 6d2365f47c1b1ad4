// Package walk visits the pairs of a tree in the order of their keys.
package walk

import (
	"iter"
	"strings"

	"hindsight/api"
	"hindsight/btree"
	"hindsight/cursor"
)

// Pairs yields a cursor at each pair of a tree whose key begins with front. No key may be empty. An error is yielded last, with a cursor that is of no use.
func Pairs(t *btree.Tree, front string) iter.Seq2[*cursor.Cursor, api.Errno] {
	return func(yield func(*cursor.Cursor, api.Errno) bool) {
		at, last := cursor.New(t), ""
		err := at.Seek(front)
		for err == api.OK && at.At() && strings.HasPrefix(at.Key(), front) {
			// In a damaged tree, the keys may go in a circle.
			if at.Key() <= last {
				err = api.ErrCorrupt
				break
			}
			last = at.Key()
			if !yield(at, api.OK) {
				return
			}
			err = at.Next()
		}
		if err != api.OK {
			yield(at, err)
		}
	}
}
