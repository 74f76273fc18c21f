package png

import "layercake/api"

// Kinds of chunks that mean something here.
const (
	ofHead   = "IHDR"
	ofColors = "PLTE"
	ofCovers = "tRNS"
	ofRows   = "IDAT"
	ofEnd    = "IEND"
)

// Types of pictures: what a pixel is told by.
const (
	byGrey    = 0
	byColors  = 2
	byNumbers = 3
	byAll     = 6 // colors, and how much it covers
)

const (
	headSize = 13
	zeros    = "\x00\x00\x00" // what stands behind the type in every head
	fullByte = 8

	colorSize = 3
)

// head of a file: what its first chunk tells.
type head struct{ wide, high, depth, kind int }

func (h head) text() string {
	l := putNumber(nil, h.wide)
	l = putNumber(l, h.high)
	l = append(l, byte(h.depth), byte(h.kind))
	return string(l) + zeros
}

// readHead of just as many bytes as one has.
func readHead(s string) (head, error) {
	wide, high := number(s), number(s[4:])
	if !bounded(wide) || !bounded(high) {
		return head{}, api.ErrBound
	}
	h := head{int(wide), int(high), int(s[8]), int(s[9])}
	if !h.isKnown() || s[10:] != zeros {
		return head{}, api.ErrText
	}
	return h, nil
}

// bounded: asked ahead of being an int, that may have no room for it.
func bounded(n uint32) bool { return n >= 1 && n <= api.MaxSide }

func (h head) isKnown() bool {
	switch h.kind {
	case byGrey, byColors, byAll:
		return h.depth == fullByte
	case byNumbers:
		return h.depth == 1 || h.depth == 2 || h.depth == 4 || h.depth == fullByte
	}
	return false
}

// mostColors that the file may list.
func (h head) mostColors() int {
	if h.kind == byNumbers {
		return 1 << h.depth
	}
	return api.MaxColors
}

func (h head) bitsOfPixel() int {
	switch h.kind {
	case byColors:
		return 3 * h.depth
	case byAll:
		return 4 * h.depth
	}
	return h.depth
}

// rowSize in bytes, without the byte for the row's kind.
func (h head) rowSize() int { return (h.wide*h.bitsOfPixel() + fullByte - 1) / fullByte }

// step from a pixel's byte to that of the next one; several pixels in a byte are one to it.
func (h head) step() int { return max(1, h.bitsOfPixel()/fullByte) }

func putNumber(l []byte, n int) []byte {
	return append(l, byte(n>>24), byte(n>>16), byte(n>>8), byte(n))
}

// number that the first four bytes of a text tell.
func number(s string) uint32 {
	return uint32(s[0])<<24 | uint32(s[1])<<16 | uint32(s[2])<<8 | uint32(s[3])
}
