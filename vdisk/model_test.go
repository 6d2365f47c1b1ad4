package vdisk_test

import (
	"bytes"
	"testing"

	"hindsight/api"
	"hindsight/vdisk"
)

// record is a write in the model: a place and its byte.
type record struct {
	file, sector int
	c            byte
}

// model is a disk by its definition: the list of the durable writes, and that of the pending ones.
type model struct {
	quota         int
	sure, pending []record
	calls, plan   int
	down          bool
}

// all are the writes of the model in their order.
func (m *model) all() []record { return append(append([]record{}, m.sure...), m.pending...) }

// length is the length of a file.
func (m *model) length(file int) int {
	n := 0
	for _, r := range m.all() {
		if r.file == file {
			n = max(n, r.sector+1)
		}
	}
	return n
}

// last is the byte that the list wrote last at a place.
func last(l []record, file, sector int) byte {
	c := byte(0)
	for _, r := range l {
		if r.file == file && r.sector == sector {
			c = r.c
		}
	}
	return c
}

// change is the part of Write and of Sync that the plan is about.
func (m *model) change() bool {
	if m.plan == 0 {
		m.down = true
		return false
	}
	m.plan--
	m.calls++
	return true
}

func (m *model) write(file, sector int, c byte) api.Errno {
	switch n := m.length(file); {
	case m.down:
		return api.ErrDown
	case sector >= n && sector+1+m.length(1-file) > m.quota:
		return api.ErrDisk
	case !m.change():
		return api.ErrDown
	}
	m.pending = append(m.pending, record{file, sector, c})
	return api.OK
}

func (m *model) sync(file int) api.Errno {
	if m.down || !m.change() {
		return api.ErrDown
	}
	var others []record
	for _, r := range m.pending {
		if r.file == file {
			m.sure = append(m.sure, r)
		} else {
			others = append(others, r)
		}
	}
	m.pending = others
	return api.OK
}

func (m *model) crash(keep []byte) {
	for i, r := range m.pending {
		if i/8 < len(keep) && keep[i/8]&(1<<(i%8)) != 0 {
			m.sure = append(m.sure, r)
		}
	}
	m.pending, m.plan, m.down = nil, -1, false
}

// chance is a sequence of numbers that is the same in every run.
type chance uint64

// below is the next number, from 0 to n - 1.
func (c *chance) below(n int) int {
	*c = *c*6364136223846793005 + 1442695040888963407
	return int(uint64(*c)>>33) % n
}

// bytes are n of the next numbers.
func (c *chance) bytes(n int) []byte {
	b := make([]byte, n)
	for i := range b {
		b[i] = byte(c.below(256))
	}
	return b
}

// compare holds all that the disk shows against the model.
func compare(t *testing.T, d *vdisk.Disk, m *model) {
	t.Helper()
	if d.Waits() != len(m.pending) || d.Calls() != m.calls || d.Down() != m.down {
		t.Fatalf("Waits, Calls, Down = %d %d %v, want %d %d %v", d.Waits(), d.Calls(), d.Down(), len(m.pending), m.calls, m.down)
	}
	for file := range 2 {
		n := m.length(file)
		if d.Len(file) != n {
			t.Fatalf("Len(%d) = %d, want %d", file, d.Len(file), n)
		}
		for sector := range n + 1 {
			want := api.OK
			if m.down {
				want = api.ErrDown
			} else if sector == n {
				want = api.ErrNone
			}
			b, code := d.Read(file, sector)
			if code != want || code == api.OK && !bytes.Equal(b, full(last(m.all(), file, sector))) {
				t.Fatalf("Read(%d, %d) = %v %v, want %v", file, sector, b, code, want)
			}
		}
	}
}

// step makes one call, of the disk and of the model.
func step(t *testing.T, next *chance, d *vdisk.Disk, m *model) {
	t.Helper()
	file := next.below(2)
	switch next.below(16) {
	case 0:
		keep := next.bytes(next.below(4))
		m.crash(keep)
		crash(t, d, keep...)
	case 1:
		m.plan = next.below(12)
		d.Fail(m.plan)
	case 2:
		m.quota = 1 + next.below(30)
		d.Quota(m.quota)
	case 3, 4:
		if code, want := d.Sync(file), m.sync(file); code != want {
			t.Fatalf("Sync(%d) = %v, want %v", file, code, want)
		}
	default:
		sector, c := next.below(12), byte(next.below(256))
		if code, want := d.Write(file, sector, full(c)), m.write(file, sector, c); code != want {
			t.Fatalf("Write(%d, %d) = %v, want %v", file, sector, code, want)
		}
	}
}

// TestP7_5ByDefinition makes many calls; the result of each is that of the definition, so that Read returns what was written last.
func TestP7_5ByDefinition(t *testing.T) {
	for seed := range 40 {
		next := chance(seed)
		m := &model{quota: 1 + next.below(30), plan: -1}
		d := disk(t, m.quota)
		for range 150 {
			step(t, &next, d, m)
			compare(t, d, m)
		}
	}
}

// TestP7_4 makes a few calls and then crashes with each choice of the pending writes.
func TestP7_4(t *testing.T) {
	for seed := range 30 {
		for choice := range 1 << 6 {
			next := chance(seed)
			d, m := disk(t, 20), &model{quota: 20, plan: -1}
			for range 12 {
				file, sector, c := next.below(2), next.below(3), byte(next.below(256))
				put(t, d, file, sector, c)
				m.write(file, sector, c)
				if next.below(3) == 0 || d.Waits() == 6 {
					sync(t, d, file)
					m.sync(file)
				}
				if d.Waits() == 6 {
					sync(t, d, 1-file)
					m.sync(1 - file)
				}
			}
			synced, pending := m.sure, m.pending
			crash(t, d, byte(choice))
			m.crash([]byte{byte(choice)})
			compare(t, d, m)
			checkDurable(t, d, synced, pending)
		}
	}
}

// checkDurable holds each sector against what was synced last and what was pending later.
func checkDurable(t *testing.T, d *vdisk.Disk, synced, pending []record) {
	t.Helper()
	for file := range 2 {
		for sector := range d.Len(file) {
			b, _ := d.Read(file, sector)
			allowed := bytes.Equal(b, full(last(synced, file, sector)))
			for _, r := range pending {
				allowed = allowed || r.file == file && r.sector == sector && bytes.Equal(b, full(r.c))
			}
			if !allowed {
				t.Fatalf("sector %d of file %d has %d, which was neither synced last nor pending", sector, file, b[0])
			}
		}
		for _, r := range synced {
			if r.file == file && r.sector >= d.Len(file) {
				t.Fatalf("sector %d of file %d was synced and is missing", r.sector, file)
			}
		}
	}
}
