package journal

import (
	"hindsight/api"
)

// The bytes with which a header begins, and where its numbers are.
const (
	magic   = "HSJ1"
	countAt = 4
	pagesAt = 8
)

// numberSize is the size of a number in the journal.
const numberSize = 4

// Head is the header of a journal of count entries, made when file 0 had that many pages.
func Head(count, pages int) ([]byte, api.Errno) {
	if !isCount(count) || !isCount(pages) {
		return nil, api.ErrArg
	}
	b := make([]byte, api.Sector)
	copy(b, magic)
	putNumber(b[countAt:], count)
	putNumber(b[pagesAt:], pages)
	return b, api.OK
}

// ReadHead is the number of entries and the number of pages of the header b, and whether it is one.
func ReadHead(b []byte) (int, int, bool) {
	if len(b) != api.Sector {
		return 0, 0, false
	}
	count, pages := number(b[countAt:]), number(b[pagesAt:])
	head, err := Head(count, pages)
	if err != api.OK || !same(b, head) {
		return 0, 0, false
	}
	return count, pages, true
}

// title is the first sector of the entry of a page.
func title(page int) []byte {
	b := make([]byte, api.Sector)
	putNumber(b, page)
	return b
}

// readTitle is the page of the entry whose first sector is b, and whether b is one.
func readTitle(b []byte) (int, bool) {
	page := number(b)
	if !isPage(page) || !same(b, title(page)) {
		return 0, false
	}
	return page, true
}

// isCount reports whether there can be n entries or pages.
func isCount(n int) bool { return n >= 0 && n <= api.MaxPages }

// isPage reports whether a page can have the number n.
func isPage(n int) bool { return n >= 0 && n < api.MaxPages }

// same reports whether two sectors have the same bytes.
func same(a, b []byte) bool { return [api.Sector]byte(a) == [api.Sector]byte(b) }

// putNumber writes n to the front of b.
func putNumber(b []byte, n int) {
	for i := range numberSize {
		b[i] = byte(n >> (8 * (numberSize - 1 - i)))
	}
}

// number is the number at the front of b.
func number(b []byte) int {
	n := 0
	for _, c := range b[:numberSize] {
		n = n<<8 | int(c)
	}
	return n
}
