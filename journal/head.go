package journal

import (
	"hindsight/api"
	"hindsight/fixed"
)

// The bytes with which a header begins, and where its numbers are.
const (
	magic   = "HSJ1"
	countAt = 4
	pagesAt = 8
	zerosAt = 12
)

// numberSize is the size of the number of a page.
const numberSize = 4

// Head is the header of a journal of count entries, made when file 0 had that many pages.
func Head(count, pages int) ([]byte, api.Errno) {
	if !isCount(count) || !isCount(pages) {
		return nil, api.ErrArg
	}
	b := make([]byte, api.Sector)
	copy(b, magic)
	fixed.Put(b[countAt:pagesAt], count)
	fixed.Put(b[pagesAt:zerosAt], pages)
	return b, api.OK
}

// ReadHead is the number of entries and the number of pages of the header b, and whether it is one.
func ReadHead(b []byte) (int, int, bool) {
	if len(b) != api.Sector {
		return 0, 0, false
	}
	count, pages := fixed.Get(b[countAt:pagesAt]), fixed.Get(b[pagesAt:zerosAt])
	head, err := Head(count, pages)
	if err != api.OK || !same(b, head) {
		return 0, 0, false
	}
	return count, pages, true
}

// title is the first sector of the entry of a page.
func title(page int) []byte {
	b := make([]byte, api.Sector)
	fixed.Put(b[:numberSize], page)
	return b
}

// readTitle is the page of the entry whose first sector is b, and whether b is one.
func readTitle(b []byte) (int, bool) {
	page := fixed.Get(b[:numberSize])
	if !isPage(page) || !same(b, title(page)) {
		return 0, false
	}
	return page, true
}

// isCount reports whether there can be n entries or pages.
func isCount(n int) bool { return n >= 0 && n <= api.MaxPages }

// isPage reports whether a page can have the number n.
func isPage(n int) bool { return n >= 0 && n < api.MaxPages }

// same reports whether two sectors have the same bytes.
func same(a, b []byte) bool { return [api.Sector]byte(a) == [api.Sector]byte(b) }
