package code

import (
	"hindsight/api"
	"hindsight/opcode"
	"hindsight/record"
	"hindsight/varint"
)

// Write is the encoding of p: the number of constants and the row of each one, with its length; then the number of instructions and the Op and the Arg of each one.
func Write(p Program) ([]byte, api.Errno) {
	if !Right(p) {
		return nil, api.ErrForm
	}
	b := varint.Put(uint64(len(p.Consts)))
	for _, v := range p.Consts {
		row, err := record.Write([]api.Value{v})
		if err != api.OK {
			return nil, err
		}
		b = append(b, varint.PutText(string(row))...)
	}
	b = append(b, varint.Put(uint64(len(p.Code)))...)
	for _, x := range p.Code {
		b = append(b, varint.Put(uint64(x.Op))...)
		b = append(b, varint.Put(uint64(x.Arg))...)
	}
	return b, api.OK
}

// Read is the program whose encoding is b.
func Read(b []byte) (Program, api.Errno) {
	r := reader{bytes: b}
	var p Program
	for range r.number(mostConsts) {
		p.Consts = append(p.Consts, r.constant())
	}
	for range r.number(mostCode) {
		p.Code = append(p.Code, Instr{Op: r.number(opcode.Four), Arg: r.number(mostSlot)})
	}
	if r.at != len(b) || !Right(p) {
		return Program{}, api.ErrForm
	}
	return p, api.OK
}

// reader reads bytes from index at on. Once something is wrong, at is failed, where nothing can be read any more.
type reader struct {
	bytes []byte
	at    int
}

const failed = -1

// number is the next number, which is at most most.
func (r *reader) number(most uint64) int {
	v, end, err := varint.Get(r.bytes, r.at)
	if err != api.OK || v > most {
		r.at = failed
		return 0
	}
	r.at = end
	return int(v)
}

// constant is the value of the next row.
func (r *reader) constant() api.Value {
	row, end, err := varint.GetText(r.bytes, r.at)
	l, wrong := record.Read([]byte(row))
	if err != api.OK || wrong != api.OK || len(l) != 1 {
		r.at = failed
		return api.Value{}
	}
	r.at = end
	return l[0]
}
