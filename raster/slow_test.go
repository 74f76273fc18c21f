package raster

import (
	"image"
	"math/big"
	"slices"

	"layercake/api"
	"layercake/pixel"
)

// A second way for every call, as plain and slow as can be: by rows, places and whole fractions. The tests hold the package against it. It takes only what is right and within its bounds.

func rowsOf(p api.Picture) [][]api.Pixel {
	var rows [][]api.Pixel
	for row := range slices.Chunk(p.P, p.Wide) {
		rows = append(rows, slices.Clone(row))
	}
	return rows
}

func ofRows(rows [][]api.Pixel) api.Picture {
	return api.Picture{Wide: len(rows[0]), High: len(rows), P: slices.Concat(rows...)}
}

func frame(r api.Rect) image.Rectangle { return image.Rect(r.X, r.Y, r.X+r.W, r.Y+r.H) }

func slowFill(p api.Picture, r api.Rect, c api.Pixel) api.Picture {
	rows := rowsOf(p)
	part := frame(r).Intersect(image.Rect(0, 0, p.Wide, p.High))
	for y := part.Min.Y; y < part.Max.Y; y++ {
		for x := part.Min.X; x < part.Max.X; x++ {
			rows[y][x] = c
		}
	}
	return ofRows(rows)
}

func slowCrop(p api.Picture, r api.Rect) api.Picture {
	var l [][]api.Pixel
	for _, row := range rowsOf(p)[r.Y : r.Y+r.H] {
		l = append(l, row[r.X:r.X+r.W])
	}
	return ofRows(l)
}

// slowStamp goes through the pixels of q, not of p.
func slowStamp(p, q api.Picture, x, y, mode int) api.Picture {
	rows := rowsOf(p)
	for v, row := range rowsOf(q) {
		for u, top := range row {
			to := image.Pt(x+u, y+v)
			if !to.In(image.Rect(0, 0, p.Wide, p.High)) {
				continue
			}
			over, err := pixel.Over(mode, top, rows[to.Y][to.X])
			if err != nil {
				panic(err)
			}
			rows[to.Y][to.X] = over
		}
	}
	return ofRows(rows)
}

func slowFlip(p api.Picture, down bool) api.Picture {
	rows := rowsOf(p)
	if down {
		slices.Reverse(rows)
		return ofRows(rows)
	}
	for _, row := range rows {
		slices.Reverse(row)
	}
	return ofRows(rows)
}

// slowTurn once to the right: the lowest pixel of each column comes first in its row.
func slowTurn(p api.Picture) api.Picture {
	rows := make([][]api.Pixel, p.Wide)
	for _, row := range slices.Backward(rowsOf(p)) {
		for x, c := range row {
			rows[x] = append(rows[x], c)
		}
	}
	return ofRows(rows)
}

// slowShare: the greatest number that is no more than n of / by.
func slowShare(n, of, by int) int {
	found := 0
	for found*by <= n*of {
		found++
	}
	return found - 1
}

func slowScale(p api.Picture, wide, high int) api.Picture {
	from := rowsOf(p)
	rows := make([][]api.Pixel, high)
	for y := range rows {
		for x := range wide {
			rows[y] = append(rows[y], from[slowShare(y, p.High, high)][slowShare(x, p.Wide, wide)])
		}
	}
	return ofRows(rows)
}

// slowHalf: each pixel is put to the one that it becomes a part of.
func slowHalf(p api.Picture) api.Picture {
	parts := map[image.Point][]api.Pixel{}
	for y, row := range rowsOf(p) {
		for x, c := range row {
			to := image.Pt(x/2, y/2)
			parts[to] = append(parts[to], c)
		}
	}
	last := image.Pt((p.Wide-1)/2, (p.High-1)/2)
	rows := make([][]api.Pixel, last.Y+1)
	for y := range rows {
		for x := range last.X + 1 {
			rows[y] = append(rows[y], pixel.Mix(parts[image.Pt(x, y)]))
		}
	}
	return ofRows(rows)
}

// slowAfter k of n steps, by a whole fraction and a half more, rounded down.
func slowAfter(k, n, from, to int) int {
	at := big.NewRat(int64(from), 1)
	if n > 0 {
		at.Add(at, new(big.Rat).Mul(big.NewRat(int64(k), int64(n)), big.NewRat(int64(to-from), 1)))
		at.Add(at, big.NewRat(1, 2))
	}
	// Div rounds down whatever is above 0 below it.
	return int(new(big.Int).Div(at.Num(), at.Denom()).Int64())
}

func slowLine(p api.Picture, x0, y0, x1, y1 int, c api.Pixel) api.Picture {
	rows := rowsOf(p)
	n := image.Rect(x0, y0, x1, y1).Dx()
	if high := image.Rect(x0, y0, x1, y1).Dy(); high > n {
		n = high
	}
	for k := 0; k <= n; k++ {
		to := image.Pt(slowAfter(k, n, x0, x1), slowAfter(k, n, y0, y1))
		if to.In(image.Rect(0, 0, p.Wide, p.High)) {
			rows[to.Y][to.X] = c
		}
	}
	return ofRows(rows)
}

// slowFlood goes through the whole picture until nothing is come to any more.
func slowFlood(p api.Picture, x, y int, c api.Pixel) api.Picture {
	rows := rowsOf(p)
	come := map[image.Point]bool{{X: x, Y: y}: true}
	for before := 0; len(come) > before; {
		before = len(come)
		for v, row := range rows {
			for u := range row {
				near := come[image.Pt(u-1, v)] || come[image.Pt(u+1, v)] || come[image.Pt(u, v-1)] || come[image.Pt(u, v+1)]
				if near && rows[v][u] == rows[y][x] {
					come[image.Pt(u, v)] = true
				}
			}
		}
	}
	for to := range come {
		rows[to.Y][to.X] = c
	}
	return ofRows(rows)
}
