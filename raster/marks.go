package raster

import (
	"layercake/api"
	"layercake/shape"
)

// Line of pixels.
func Line(p api.Picture, x0, y0, x1, y1 int, c api.Pixel) (api.Picture, error) {
	if !shape.IsRight(p) {
		return api.Picture{}, api.ErrShape
	}
	if !shape.AreNear(x0, y0, x1, y1) {
		return api.Picture{}, api.ErrBound
	}
	m := marksOn(p)
	n := max(x1-x0, x0-x1, y1-y0, y0-y1)
	for k := range n + 1 {
		if x, y := after(k, n, x0, x1), after(k, n, y0, y1); holds(p, x, y) {
			m.mark(x, y)
		}
	}
	return painted(p, c, m.isMarked), nil
}

// after k of n steps from one number to another one.
func after(k, n, from, to int) int {
	if n == 0 {
		return from
	}
	return from + floor(2*k*(to-from)+n, 2*n)
}

// floor of a quotient: also below 0, where dividing alone would round up.
func floor(n, by int) int {
	if n%by < 0 {
		return n/by - 1
	}
	return n / by
}

// Flood from a place.
func Flood(p api.Picture, x, y int, c api.Pixel) (api.Picture, error) {
	if !shape.IsRight(p) {
		return api.Picture{}, api.ErrShape
	}
	if !holds(p, x, y) {
		return api.Picture{}, api.ErrBound
	}
	return painted(p, c, likeFrom(p, x, y).isMarked), nil
}

type place struct{ x, y int }

// likeFrom a place that p holds: marks on all that is come to. Each is marked as soon as it is met, so that none waits twice.
func likeFrom(p api.Picture, x, y int) marks {
	like := at(p, x, y)
	m := marksOn(p)
	var waiting []place
	meet := func(x, y int) {
		if holds(p, x, y) && at(p, x, y) == like && !m.isMarked(x, y) {
			m.mark(x, y)
			waiting = append(waiting, place{x, y})
		}
	}
	meet(x, y)
	for len(waiting) > 0 {
		last := waiting[len(waiting)-1]
		waiting = waiting[:len(waiting)-1]
		meet(last.x-1, last.y)
		meet(last.x+1, last.y)
		meet(last.x, last.y-1)
		meet(last.x, last.y+1)
	}
	return m
}

// marks on the pixels of a picture, row by row.
type marks struct {
	wide int
	list []bool
}

func marksOn(p api.Picture) marks { return marks{p.Wide, make([]bool, len(p.P))} }

func (m marks) mark(x, y int) { m.list[y*m.wide+x] = true }

func (m marks) isMarked(x, y int) bool { return m.list[y*m.wide+x] }
