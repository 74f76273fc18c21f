package raster

import (
	"layercake/api"
	"layercake/pixel"
	"layercake/shape"
)

// Flip a picture.
func Flip(p api.Picture, down bool) (api.Picture, error) {
	if !shape.IsRight(p) {
		return api.Picture{}, api.ErrShape
	}
	return made(p.Wide, p.High, func(x, y int) api.Pixel {
		if down {
			return at(p, x, p.High-1-y)
		}
		return at(p, p.Wide-1-x, y)
	}), nil
}

// Turn a picture to the right.
func Turn(p api.Picture, quarters int) (api.Picture, error) {
	if !shape.IsRight(p) {
		return api.Picture{}, api.ErrShape
	}
	// The lowest two bits are those of four quarters also of a number below 0.
	switch quarters & 3 {
	case 1:
		return made(p.High, p.Wide, func(x, y int) api.Pixel { return at(p, y, p.High-1-x) }), nil
	case 2:
		return made(p.Wide, p.High, func(x, y int) api.Pixel { return at(p, p.Wide-1-x, p.High-1-y) }), nil
	case 3:
		return made(p.High, p.Wide, func(x, y int) api.Pixel { return at(p, p.Wide-1-y, x) }), nil
	}
	return made(p.Wide, p.High, func(x, y int) api.Pixel { return at(p, x, y) }), nil
}

// Scale a picture.
func Scale(p api.Picture, wide, high int) (api.Picture, error) {
	if !shape.IsRight(p) {
		return api.Picture{}, api.ErrShape
	}
	if !areSides(wide, high) {
		return api.Picture{}, api.ErrBound
	}
	return made(wide, high, func(x, y int) api.Pixel { return at(p, x*p.Wide/wide, y*p.High/high) }), nil
}

// Half a picture.
func Half(p api.Picture) (api.Picture, error) {
	if !shape.IsRight(p) {
		return api.Picture{}, api.ErrShape
	}
	return made((p.Wide+1)/2, (p.High+1)/2, func(x, y int) api.Pixel { return pixel.Mix(fourAt(p, 2*x, 2*y)) }), nil
}

// fourAt a place, or as many of them as p holds.
func fourAt(p api.Picture, x, y int) []api.Pixel {
	l := make([]api.Pixel, 0, 4)
	for v := y; v < min(y+2, p.High); v++ {
		for u := x; u < min(x+2, p.Wide); u++ {
			l = append(l, at(p, u, v))
		}
	}
	return l
}
