package pager

import (
	"hindsight/api"
)

// Alloc takes the first free page, or an additional one if none is free; it consists of zeros.
func (p *Pager) Alloc() (int, api.Errno) {
	if err := p.inside(); err != api.OK {
		return 0, err
	}
	page, next := p.now.free, 0
	switch {
	case page != 0:
		var err api.Errno
		if next, err = p.next(page); err != api.OK {
			return 0, err
		}
	case p.now.pages == api.MaxPages:
		return 0, api.ErrFull
	default:
		page = p.now.pages
		p.now.pages++
	}
	p.now.free = next
	p.now.images[page] = image{}
	p.now.setHeader()
	return page, api.OK
}

// Free makes a page the first free one.
func (p *Pager) Free(page int) api.Errno {
	if err := p.inside(); err != api.OK {
		return err
	}
	if !p.has(page) {
		return api.ErrArg
	}
	p.unlink(page)
	p.now.images[page] = freeImage(p.now.free)
	p.now.free = page
	p.now.setHeader()
	return api.OK
}

// next is the free page behind a free page, or 0.
func (p *Pager) next(page int) (int, api.Errno) {
	b, err := p.image(page)
	if err != api.OK {
		return 0, err
	}
	next, ok := readFree(b, p.now.pages)
	if !ok {
		return 0, api.ErrCorrupt
	}
	return next, api.OK
}

// unlink takes a page off the free ones: one that is freed twice must not be returned twice by Alloc.
func (p *Pager) unlink(page int) {
	next, err := p.next(page)
	if page == p.now.free {
		p.now.free = next
		return
	}
	// Most pages that are freed do not look free, so that the free ones need not be visited.
	if err == api.OK {
		p.skip(page, next)
	}
}

// skip makes next follow the free page in front of page, if there is one.
func (p *Pager) skip(page, next int) {
	at := p.now.free
	// In a damaged file, the free pages may form a circle, so that the steps are counted.
	for steps := 0; at != 0 && steps < p.now.pages; steps++ {
		behind, err := p.next(at)
		if err != api.OK {
			return
		}
		if behind == page {
			p.now.images[at] = freeImage(next)
			return
		}
		at = behind
	}
}
