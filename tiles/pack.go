package tiles

import (
	"layercake/api"
	"layercake/deflate"
	"layercake/inflate"
	"layercake/sum"
)

const (
	sizeBytes  = 2 // a byte for each side, less 1: so that the greatest one has room
	sumBytes   = 4
	pixelBytes = 4
)

// The byte of a tile: what stands behind it.
const (
	ofOne  = 0 // one pixel, for all
	ofMany = 1 // each pixel
)

// Pack a grid: its size, of each tile a byte and its pixels, packed; a sum.
func (g *Grid) Pack() string {
	if g.isNone() {
		return ""
	}
	// The greatest grid's text has 262400 bytes: never too many to be packed, nor, packed, to be unpacked.
	packed, _ := deflate.Deflate(g.text())
	s := string([]byte{byte(g.wide - 1), byte(g.high - 1)}) + packed
	return s + sumText(s)
}

// Unpack a grid.
func Unpack(s string) (*Grid, error) {
	if len(s) > api.MaxBytes {
		return nil, api.ErrBound
	}
	if len(s) < sizeBytes+sumBytes {
		return nil, api.ErrText
	}
	summed, told := s[:len(s)-sumBytes], s[len(s)-sumBytes:]
	if told != sumText(summed) {
		return nil, api.ErrSum
	}
	text, _, err := inflate.Inflate(summed[sizeBytes:], api.MaxBytes)
	if err != nil {
		return nil, api.ErrText
	}
	g, ok := ofText(int(s[0])+1, int(s[1])+1, text)
	// A text may be packed in many ways, and what is behind it is not read: so it is asked whether this is the one that Pack makes.
	if !ok || g.Pack() != s {
		return nil, api.ErrText
	}
	return g, nil
}

func (g *Grid) text() string {
	l := make([]byte, 0, len(g.tiles)+pixelBytes*g.wide*g.high)
	for _, t := range g.tiles {
		if t.isPlain() {
			l = append(l, ofOne)
		} else {
			l = append(l, ofMany)
		}
		for _, c := range t.pixels {
			l = append(l, c.R, c.G, c.B, c.A)
		}
	}
	return string(l)
}

// ofText: false if it is too short for the grid.
func ofText(wide, high int, text string) (g *Grid, ok bool) {
	ok = true
	next := func(count int) string {
		if count > len(text) {
			// What is left is made of zeros, and thrown away.
			ok, text = false, ""
			return string(make([]byte, count))
		}
		s := text[:count]
		text = text[count:]
		return s
	}
	g = made(wide, high, func(part api.Rect) []api.Pixel {
		if next(1)[0] == ofOne {
			return pixelsOf(next(pixelBytes))
		}
		return pixelsOf(next(pixelBytes * part.W * part.H))
	})
	return g, ok
}

func pixelsOf(s string) []api.Pixel {
	l := make([]api.Pixel, 0, len(s)/pixelBytes)
	for ; len(s) > 0; s = s[pixelBytes:] {
		l = append(l, api.Pixel{R: s[0], G: s[1], B: s[2], A: s[3]})
	}
	return l
}

// sumText: the highest byte first.
func sumText(s string) string {
	n := sum.CRC(s)
	return string([]byte{byte(n >> 24), byte(n >> 16), byte(n >> 8), byte(n)})
}
