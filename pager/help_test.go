package pager_test

import (
	"bytes"
	"strconv"
	"strings"
	"testing"

	"hindsight/api"
	"hindsight/journal"
	"hindsight/pager"
	"hindsight/vdisk"
)

// disk is an empty disk.
func disk(t *testing.T, quota int) *vdisk.Disk {
	t.Helper()
	d, code := vdisk.New(quota)
	if d == nil || code != api.OK {
		t.Fatalf("New(%d) = %v %v", quota, d, code)
	}
	return d
}

// open is the pager of a disk.
func open(t *testing.T, d *vdisk.Disk) *pager.Pager {
	t.Helper()
	p, code := pager.Open(d)
	if p == nil || code != api.OK {
		t.Fatalf("Open = %v %v", p, code)
	}
	return p
}

// full is a page of one byte.
func full(c byte) []byte { return bytes.Repeat([]byte{c}, 512) }

// number is n in four bytes.
func number(n int) []byte { return []byte{byte(n >> 24), byte(n >> 16), byte(n >> 8), byte(n)} }

// freePage is a free page with that next one.
func freePage(next int) []byte { return append(number(next), make([]byte, 508)...) }

// head is page 0 with a meta of one byte.
func head(pages, free int, meta byte) []byte {
	b := append([]byte{72, 83, 68, 49}, number(pages)...)
	b = append(b, number(free)...)
	return append(append(b, full(meta)[:64]...), make([]byte, 436)...)
}

// metaOf is the user's bytes, all of them the same.
func metaOf(c byte) [64]byte { return [64]byte(full(c)) }

// must reports an error that is not expected.
func must(t *testing.T, what string, code api.Errno) {
	t.Helper()
	if code != api.OK {
		t.Fatalf("%s = %v", what, code)
	}
}

// wants holds the error of a call against the one that it must return.
func wants(t *testing.T, what string, code, want api.Errno) {
	t.Helper()
	if code != want {
		t.Errorf("%s = %v, want %v", what, code, want)
	}
}

// lay writes pages to a disk, from page 0 on, durably.
func lay(t *testing.T, d *vdisk.Disk, pages ...[]byte) *vdisk.Disk {
	t.Helper()
	for i, b := range pages {
		must(t, "WritePage", journal.WritePage(d, i, b))
	}
	must(t, "Sync", d.Sync(0))
	return d
}

// laid is a disk with these pages.
func laid(t *testing.T, pages ...[]byte) *vdisk.Disk {
	t.Helper()
	return lay(t, disk(t, 65536), pages...)
}

// begun is the pager of a disk, in a transaction.
func begun(t *testing.T, d *vdisk.Disk) *pager.Pager {
	t.Helper()
	p := open(t, d)
	must(t, "Begin", p.Begin())
	return p
}

// down has the disk fail.
func down(d *vdisk.Disk) *vdisk.Disk {
	d.Fail(0)
	d.Sync(0)
	return d
}

// put sets a page.
func put(t *testing.T, p *pager.Pager, page int, c byte) {
	t.Helper()
	must(t, "Put", p.Put(page, full(c)))
}

// alloc takes a page, which must be that one, and zeros.
func alloc(t *testing.T, p *pager.Pager, want int) {
	t.Helper()
	if n, code := p.Alloc(); n != want || code != api.OK {
		t.Fatalf("Alloc = %d %v, want %d", n, code, want)
	}
	isPage(t, p, want, make([]byte, 512))
}

// save makes a savepoint, which must have that number.
func save(t *testing.T, p *pager.Pager, want int) {
	t.Helper()
	if n, code := p.Save(); n != want || code != api.OK {
		t.Fatalf("Save = %d %v, want %d", n, code, want)
	}
}

// isPage holds a page against its bytes.
func isPage(t *testing.T, p *pager.Pager, page int, want []byte) {
	t.Helper()
	if b, code := p.Get(page); code != api.OK || !bytes.Equal(b, want) {
		t.Errorf("Get(%d) = %v %v, want %v", page, b, code, want)
	}
}

// isOnDisk holds a page of the file against its bytes.
func isOnDisk(t *testing.T, d *vdisk.Disk, page int, want []byte) {
	t.Helper()
	if b, code := journal.ReadPage(d, page); code != api.OK || !bytes.Equal(b, want) {
		t.Errorf("ReadPage(%d) = %v %v, want %v", page, b, code, want)
	}
}

// view is all that the pager shows: its user's bytes and pages.
func view(p *pager.Pager) string {
	m := p.Meta()
	s := strconv.Itoa(p.Pages()) + ":" + string(m[:])
	for n := range p.Pages() {
		b, code := p.Get(n)
		s += "\n" + code.Error() + " " + string(b)
	}
	return s
}

// look is the view of the pager of a disk, and the pages that it allocates, up to the first one that was not free.
func look(t *testing.T, d *vdisk.Disk) string {
	t.Helper()
	p := begun(t, d)
	s := view(p)
	for pages := p.Pages(); p.Pages() == pages; {
		n, code := p.Alloc()
		s += " " + strconv.Itoa(n)
		must(t, "Alloc", code)
	}
	must(t, "Rollback", p.Rollback())
	return s
}

// show is all that can be read of the disk.
func show(d *vdisk.Disk) string {
	var s strings.Builder
	for file := range 2 {
		for i := range d.Len(file) {
			b, code := d.Read(file, i)
			s.WriteString(strconv.Itoa(file) + ":" + strconv.Itoa(i) + " " + code.Error() + " ")
			s.Write(b)
		}
	}
	return s.String()
}

// chance is a sequence of numbers that is the same in every run.
type chance uint64

// below is the next number, from 0 to n - 1.
func (c *chance) below(n int) int {
	*c = *c*6364136223846793005 + 1442695040888963407
	return int(uint64(*c)>>33) % n
}
