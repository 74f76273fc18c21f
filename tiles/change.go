package tiles

import (
	"slices"

	"layercake/api"
	"layercake/raster"
)

// Fill a part.
func (g *Grid) Fill(r api.Rect, c api.Pixel) (*Grid, error) {
	if g.isNone() {
		return nil, api.ErrShape
	}
	if _, err := raster.Fill(dot(), r, c); err != nil {
		return nil, err
	}
	return g.changed(r, func(t tile) (api.Picture, error) {
		return raster.Fill(t.picture(), api.Rect{X: r.X - t.part.X, Y: r.Y - t.part.Y, W: r.W, H: r.H}, c)
	})
}

// Stamp a picture.
func (g *Grid) Stamp(q api.Picture, x, y, mode int) (*Grid, error) {
	if g.isNone() {
		return nil, api.ErrShape
	}
	if _, err := raster.Stamp(dot(), q, x, y, mode); err != nil {
		return nil, err
	}
	r := api.Rect{X: x, Y: y, W: q.Wide, H: q.High}
	return g.changed(r, func(t tile) (api.Picture, error) {
		return raster.Stamp(t.picture(), q, x-t.part.X, y-t.part.Y, mode)
	})
}

// Changed tiles of two grids.
func Changed(a, b *Grid) ([]api.Rect, error) {
	if a.isNone() || b.isNone() || a.wide != b.wide || a.high != b.high {
		return nil, api.ErrShape
	}
	var l []api.Rect
	for _, i := range a.search(func(i int) bool { return !slices.Equal(a.tiles[i].pixels, b.tiles[i].pixels) }) {
		l = append(l, a.tiles[i].part)
	}
	return l, nil
}

// dot: a picture of one pixel, on which raster is asked ahead of any tile: so that its errors are told wherever r or q lies.
func dot() api.Picture { return api.Picture{Wide: 1, High: 1, P: make([]api.Pixel, 1)} }

// changed where r lies in tiles: those are made anew, the others copied, as a new grid shares no memory with the older one. A tile that r meets is no further from r's corner than r is wide and high: so told from the tile's corner on, r is still within raster's bounds.
func (g *Grid) changed(r api.Rect, change func(t tile) (api.Picture, error)) (*Grid, error) {
	l := make([]tile, len(g.tiles))
	for i, t := range g.tiles {
		l[i] = t.copied()
	}
	for _, i := range g.search(func(i int) bool { return meets(g.tiles[i].part, r) }) {
		p, err := change(g.tiles[i])
		if err != nil {
			return nil, err
		}
		l[i] = tileOf(g.tiles[i].part, p.P)
	}
	return &Grid{wide: g.wide, high: g.high, tiles: l}, nil
}

// meets: only of parts whose numbers are near, as others may wrap round.
func meets(a, b api.Rect) bool {
	return max(a.X, b.X) < min(a.X+a.W, b.X+b.W) && max(a.Y, b.Y) < min(a.Y+a.H, b.Y+b.H)
}
