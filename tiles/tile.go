package tiles

import (
	"slices"

	"layercake/api"
)

// tile: a part of a picture, and its pixels, row by row. Where all are alike it always has just one: so two tiles of one part are alike if their lists are.
type tile struct {
	part   api.Rect
	pixels []api.Pixel
}

// tileOf its pixels, or of one for all of them; the list is kept.
func tileOf(part api.Rect, l []api.Pixel) tile {
	if areAlike(l) {
		// A list of its own, so that the long one is not kept for one pixel.
		l = []api.Pixel{l[0]}
	}
	return tile{part, l}
}

// areAlike: only of some.
func areAlike(l []api.Pixel) bool {
	return !slices.ContainsFunc(l, func(c api.Pixel) bool { return c != l[0] })
}

func (t tile) isPlain() bool { return len(t.pixels) == 1 }

// at a place of the picture that the tile holds.
func (t tile) at(x, y int) api.Pixel {
	if t.isPlain() {
		return t.pixels[0]
	}
	return t.pixels[(y-t.part.Y)*t.part.W+x-t.part.X]
}

func (t tile) copied() tile { return tile{t.part, slices.Clone(t.pixels)} }

// picture of the tile alone, only to be read: its list may be the tile's own.
func (t tile) picture() api.Picture {
	l := t.pixels
	if t.isPlain() {
		l = slices.Repeat(t.pixels, t.part.W*t.part.H)
	}
	return api.Picture{Wide: t.part.W, High: t.part.H, P: l}
}

// putOn the picture of which it is a tile.
func (t tile) putOn(p api.Picture) {
	for y := t.part.Y; y < t.part.Y+t.part.H; y++ {
		row := p.P[y*p.Wide+t.part.X:]
		for x := range t.part.W {
			row[x] = t.at(t.part.X+x, y)
		}
	}
}

// pixelsIn a part of a picture.
func pixelsIn(p api.Picture, part api.Rect) []api.Pixel {
	l := make([]api.Pixel, 0, part.W*part.H)
	for y := range part.H {
		from := (part.Y+y)*p.Wide + part.X
		l = append(l, p.P[from:from+part.W]...)
	}
	return l
}
