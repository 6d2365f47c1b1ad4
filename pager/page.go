package pager

import (
	"hindsight/api"
	"hindsight/fixed"
)

// Where the parts of the header are.
const (
	pagesAt = 4
	freeAt  = 8
	metaAt  = 12
	zerosAt = metaAt + metaSize
)

// The sizes of the user's bytes and of a free page's number of the next one.
const (
	metaSize = 64
	nextSize = 4
)

// first are the bytes with which the header begins.
var first = [pagesAt]byte{72, 83, 68, 49}

// image is the contents of a page.
type image [api.Page]byte

// header is what page 0 has.
type header struct {
	pages int
	free  int // the first free page, or 0
	meta  [metaSize]byte
}

// image is page 0.
func (h header) image() image {
	var b image
	for i, c := range first {
		b[i] = c
	}
	fixed.Put(b[pagesAt:freeAt], h.pages)
	fixed.Put(b[freeAt:metaAt], h.free)
	copy(b[metaAt:zerosAt], h.meta[:])
	return b
}

// readHeader is the header of which b is page 0, and whether there is one; zeros are that of a new file.
func readHeader(b image) (header, bool) {
	if b == (image{}) {
		return header{pages: 1}, true
	}
	h := header{
		pages: fixed.Get(b[pagesAt:freeAt]),
		free:  fixed.Get(b[freeAt:metaAt]),
		meta:  [metaSize]byte(b[metaAt:zerosAt]),
	}
	isHeader := [pagesAt]byte(b[:pagesAt]) == first &&
		h.pages >= 1 && h.pages <= api.MaxPages &&
		isNext(h.free, h.pages) &&
		[api.Page - zerosAt]byte(b[zerosAt:]) == [api.Page - zerosAt]byte{}
	if !isHeader {
		return header{}, false
	}
	return h, true
}

// freeImage is a free page in front of another one, or of none if next is 0.
func freeImage(next int) image {
	var b image
	fixed.Put(b[:nextSize], next)
	return b
}

// readFree is the next free page behind b, and whether b is a free page of that many pages.
func readFree(b image, pages int) (int, bool) {
	next := fixed.Get(b[:nextSize])
	if !isNext(next, pages) || [api.Page - nextSize]byte(b[nextSize:]) != [api.Page - nextSize]byte{} {
		return 0, false
	}
	return next, true
}

// isNext reports whether n can be the number of a free page, or 0 for none.
func isNext(n, pages int) bool { return n >= 0 && n < pages }
