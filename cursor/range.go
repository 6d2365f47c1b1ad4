package cursor

import (
	"hindsight/api"
	"hindsight/btree"
)

// Range is the pairs from key from on whose keys are less than to, at most so many.
func Range(t *btree.Tree, from, to string, most int) ([]btree.Pair, api.Errno) {
	c := New(t)
	var l []btree.Pair
	err := c.Seek(from)
	for err == api.OK && c.At() && c.Key() < to && len(l) < most {
		v, code := c.Value()
		if code != api.OK {
			return nil, code
		}
		l = append(l, btree.Pair{Key: c.Key(), Val: v})
		// What is behind the last pair is not needed.
		if len(l) < most {
			err = c.move(forward, ahead)
		}
	}
	if err != api.OK {
		return nil, err
	}
	return l, api.OK
}

// Count is the number of pairs.
func Count(t *btree.Tree) (int, api.Errno) {
	c, n := New(t), 0
	err := c.First()
	for err == api.OK && c.At() {
		n++
		err = c.move(forward, ahead)
	}
	if err != api.OK {
		return 0, err
	}
	return n, api.OK
}
