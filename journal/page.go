package journal

import (
	"hindsight/api"
	"hindsight/vdisk"
)

// pageSectors is the number of sectors of a page.
const pageSectors = api.Page / api.Sector

// ReadPage is a page of file 0, in which a missing sector counts as zeros.
func ReadPage(d *vdisk.Disk, page int) ([]byte, api.Errno) {
	if !isDisk(d) {
		return nil, api.ErrNil
	}
	if !isPage(page) {
		return nil, api.ErrArg
	}
	b, _, err := readSectors(d, pagesFile, pageSectors*page)
	return b, err
}

// WritePage writes b to the sectors of a page of file 0.
func WritePage(d *vdisk.Disk, page int, b []byte) api.Errno {
	if !isDisk(d) {
		return api.ErrNil
	}
	if !isPage(page) || len(b) != api.Page {
		return api.ErrArg
	}
	return writeSectors(d, pagesFile, pageSectors*page, b)
}

// readSectors puts together the page that begins at a sector, with zeros for the sectors that are missing, and reports whether none is.
func readSectors(d *vdisk.Disk, file, from int) ([]byte, bool, api.Errno) {
	b, whole := make([]byte, api.Page), true
	for i := range pageSectors {
		s, err := d.Read(file, from+i)
		if err == api.ErrNone {
			whole = false
			continue
		}
		if err != api.OK {
			return nil, false, err
		}
		copy(cut(b, i), s)
	}
	return b, whole, api.OK
}

// writeSectors writes the page b to the sectors that begin at from, up to the first error.
func writeSectors(d *vdisk.Disk, file, from int, b []byte) api.Errno {
	for i := range pageSectors {
		if err := d.Write(file, from+i, cut(b, i)); err != api.OK {
			return err
		}
	}
	return api.OK
}

// cut is sector i of the page b.
func cut(b []byte, i int) []byte {
	from, end := i*api.Sector, (i+1)*api.Sector
	return b[from:end:end]
}

// isDisk reports whether New of vdisk made d; Read names that ahead of a file that does not exist.
func isDisk(d *vdisk.Disk) bool {
	_, err := d.Read(noFile, 0)
	return err != api.ErrNil
}
