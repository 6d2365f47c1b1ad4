package index

import (
	"hindsight/api"
	"hindsight/key"
	"hindsight/schema"
	"hindsight/walk"
)

// mostFront is the greatest number of bytes of a front.
const mostFront = 18

// place is the key in the tree of a row.
func (x *Index) place(row []api.Value) (string, api.Errno) {
	if !x.made() {
		return "", api.ErrNil
	}
	k, err := schema.KeyOf(x.table, row)
	if err != api.OK {
		return "", err
	}
	front, err := frontOf(row[x.column])
	return front + string(k), err
}

// frontOf is the front of a value, behind a byte with the number of its bytes: no front begins with another one.
func frontOf(v api.Value) (string, api.Errno) {
	b, err := key.Write([]api.Value{v})
	if err == api.ErrLong {
		v.Text = v.Text[:mostFront]
		b, err = key.Write([]api.Value{v})
	}
	if err != api.OK {
		return "", err
	}
	b = b[:min(len(b), mostFront)]
	return string([]byte{byte(len(b))}) + string(b), api.OK
}

// keyAt is the key of the row at a place, and whether there is one.
func keyAt(place string) (string, bool) {
	if place == "" {
		return "", false
	}
	size, rest := int(place[0]), place[1:]
	if size == 0 || size > mostFront || size >= len(rest) {
		return "", false
	}
	return rest[size:], true
}

// visit calls see with the keys of the rows whose places begin with front, in the order of the tree.
func (x *Index) visit(front string, see func(key string)) api.Errno {
	failed := api.OK
places:
	for at, err := range walk.Pairs(x.tree, front) {
		k, ok := keyAt(at.Key())
		switch {
		case err != api.OK:
			failed = err
			break places
		case !ok:
			failed = api.ErrCorrupt
			break places
		}
		see(k)
	}
	return failed
}
