package schema

import (
	"hindsight/api"
	"hindsight/varint"
)

// encoder writes the parts of an encoding, one after the other.
type encoder struct{ b []byte }

func (e *encoder) number(n int) { e.b = append(e.b, varint.PutInt(int64(n))...) }

func (e *encoder) text(s string) { e.b = append(e.b, varint.PutText(s)...) }

func (e *encoder) flag(is bool) {
	n := 0
	if is {
		n = 1
	}
	e.number(n)
}

// decoder reads the parts of an encoding, one after the other. A part that is not there is empty, and is no error here: with it, encoding again makes other bytes.
type decoder struct {
	b  []byte
	at int
}

func (d *decoder) number() int {
	n, end, err := varint.GetInt(d.b, d.at)
	d.pass(end, err)
	return int(n)
}

func (d *decoder) text() string {
	s, end, err := varint.GetText(d.b, d.at)
	d.pass(end, err)
	return s
}

func (d *decoder) flag() bool { return d.number() == 1 }

// count is a number of parts that follow, or none if they would be too many.
func (d *decoder) count(most int) int {
	n := d.number()
	if n < 0 || n > most {
		return 0
	}
	return n
}

// pass moves the position behind a part that is there.
func (d *decoder) pass(end int, err api.Errno) {
	if err == api.OK {
		d.at = end
	}
}
