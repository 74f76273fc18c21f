package raster

import (
	"layercake/api"
	"layercake/pixel"
	"layercake/shape"
)

// Fill a part.
func Fill(p api.Picture, r api.Rect, c api.Pixel) (api.Picture, error) {
	if !shape.IsRight(p) {
		return api.Picture{}, api.ErrShape
	}
	if !shape.AreNear(r.X, r.Y, r.W, r.H) || r.W < 0 || r.H < 0 {
		return api.Picture{}, api.ErrBound
	}
	return painted(p, c, func(x, y int) bool { return covers(r, x, y) }), nil
}

// Crop to a part.
func Crop(p api.Picture, r api.Rect) (api.Picture, error) {
	if !shape.IsRight(p) {
		return api.Picture{}, api.ErrShape
	}
	if !isWithin(r, p) {
		return api.Picture{}, api.ErrBound
	}
	return made(r.W, r.H, func(x, y int) api.Pixel { return at(p, r.X+x, r.Y+y) }), nil
}

// Stamp a picture on another one.
func Stamp(p, q api.Picture, x, y, mode int) (api.Picture, error) {
	if !shape.IsRight(p) || !shape.IsRight(q) {
		return api.Picture{}, api.ErrShape
	}
	if !shape.AreNear(x, y) {
		return api.Picture{}, api.ErrBound
	}
	// Asked ahead, so that a mode that is none is told wherever q lies.
	if _, err := pixel.Over(mode, api.Pixel{}, api.Pixel{}); err != nil {
		return api.Picture{}, err
	}
	r := api.Rect{X: x, Y: y, W: q.Wide, H: q.High}
	return made(p.Wide, p.High, func(u, v int) api.Pixel {
		seen := at(p, u, v)
		if covers(r, u, v) {
			seen, _ = pixel.Over(mode, at(q, u-x, v-y), seen)
		}
		return seen
	}), nil
}

// covers: only of a part whose numbers are near, as others may wrap round.
func covers(r api.Rect, x, y int) bool {
	return x >= r.X && x < r.X+r.W && y >= r.Y && y < r.Y+r.H
}

// isWithin: a part of at least one pixel, whatever its numbers are.
func isWithin(r api.Rect, p api.Picture) bool {
	return holds(p, r.X, r.Y) && r.W >= 1 && r.H >= 1 && r.W <= p.Wide-r.X && r.H <= p.High-r.Y
}
