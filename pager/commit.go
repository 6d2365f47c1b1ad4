package pager

import (
	"maps"
	"slices"

	"hindsight/api"
	"hindsight/journal"
	"hindsight/vdisk"
)

// pagesFile is the file of a disk that has the pages.
const pagesFile = 0

// Rollback ends the transaction and restores the state at Begin.
func (p *Pager) Rollback() api.Errno {
	if err := p.inside(); err != api.OK {
		return err
	}
	p.end(p.begun)
	return api.OK
}

// Commit ends the transaction and writes its pages to the file.
func (p *Pager) Commit() api.Errno {
	if err := p.inside(); err != api.OK {
		return err
	}
	begun, now := p.begun, p.now
	p.end(begun)
	if len(now.images) == 0 {
		return api.OK
	}
	if err := store(p.disk, now.images, begun.pages); err != api.OK {
		return undo(p.disk, err)
	}
	p.now.header = now.header
	return api.OK
}

// end ends the transaction with that header.
func (p *Pager) end(h header) {
	p.in = false
	p.now = state{header: h}
	p.saves = nil
}

// store writes the changed pages to a file that had that many pages, in such an order that a crash leaves them all as they were, or a hot journal, or them all changed.
func store(d *vdisk.Disk, images map[int]image, pages int) api.Errno {
	numbers := slices.Sorted(maps.Keys(images))
	l, err := originals(d, numbers, pages)
	if err != api.OK {
		return err
	}
	if err := journal.Save(d, l, pages); err != api.OK {
		return err
	}
	for _, n := range numbers {
		b := images[n]
		if err := journal.WritePage(d, n, b[:]); err != api.OK {
			return err
		}
	}
	if err := d.Sync(pagesFile); err != api.OK {
		return err
	}
	return journal.Clear(d)
}

// originals are the journal's entries of those pages that the file had.
func originals(d *vdisk.Disk, numbers []int, pages int) ([]journal.Entry, api.Errno) {
	var l []journal.Entry
	for _, n := range numbers {
		if n >= pages {
			continue
		}
		b, err := journal.ReadPage(d, n)
		if err != api.OK {
			return nil, err
		}
		l = append(l, journal.Entry{Page: n, Image: b})
	}
	return l, api.OK
}

// undo takes back what store has written ahead of an error, and returns the error of that, if there is one.
func undo(d *vdisk.Disk, err api.Errno) api.Errno {
	if err == api.ErrDown {
		return err
	}
	if _, worse := journal.Restore(d); worse != api.OK {
		return worse
	}
	return err
}
