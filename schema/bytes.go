package schema

import (
	"bytes"

	"hindsight/api"
)

// Write is the encoding of t.
func Write(t Table) ([]byte, api.Errno) {
	if !Right(t) {
		return nil, api.ErrForm
	}
	var e encoder
	e.text(t.Name)
	e.number(len(t.Columns))
	for _, c := range t.Columns {
		e.text(c.Name)
		e.number(int(c.Kind))
		e.flag(c.NotNull)
	}
	e.number(len(t.Key))
	for _, k := range t.Key {
		e.number(k)
	}
	e.text(t.Period)
	e.number(t.From)
	e.number(t.To)
	e.flag(t.Apart)
	e.flag(t.Versioned)
	return e.b, api.OK
}

// Read is the table whose encoding is b.
func Read(b []byte) (Table, api.Errno) {
	d := decoder{b: b}
	t := Table{Name: d.text()}
	for range d.count(api.MaxColumns) {
		t.Columns = append(t.Columns, Column{d.text(), uint8(d.number()), d.flag()})
	}
	for range d.count(mostParts) {
		t.Key = append(t.Key, d.number())
	}
	t.Period = d.text()
	t.From, t.To = d.number(), d.number()
	t.Apart, t.Versioned = d.flag(), d.flag()
	return encoded(t, Write, b)
}

// WriteIndex is the encoding of x.
func WriteIndex(x Index) ([]byte, api.Errno) {
	if !isName(x.Name) || !isName(x.Table) || x.Column < 0 || x.Column >= api.MaxColumns {
		return nil, api.ErrForm
	}
	var e encoder
	e.text(x.Name)
	e.text(x.Table)
	e.number(x.Column)
	return e.b, api.OK
}

// ReadIndex is the index whose encoding is b.
func ReadIndex(b []byte) (Index, api.Errno) {
	d := decoder{b: b}
	return encoded(Index{d.text(), d.text(), d.number()}, WriteIndex, b)
}

// encoded is x, unless b is not its encoding.
func encoded[T any](x T, write func(T) ([]byte, api.Errno), b []byte) (T, api.Errno) {
	again, err := write(x)
	if err != api.OK || !bytes.Equal(again, b) {
		var no T
		return no, api.ErrCorrupt
	}
	return x, api.OK
}
