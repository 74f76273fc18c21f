package layer

import (
	"regexp"

	"layercake/api"
	"layercake/pixel"
	"layercake/raster"
)

// A second way, as plain and slow as can be, in the chapter's own words: whole pictures are faded and stamped, and names are read by a pattern. The tests hold the package against it.

// slowFlatten of a document that is right.
func slowFlatten(d Doc) api.Picture {
	page, err := raster.New(d.Wide, d.High, api.Pixel{})
	for _, l := range d.L {
		if l.Hidden {
			continue
		}
		faded := api.Picture{Wide: l.P.Wide, High: l.P.High}
		for _, c := range l.P.P {
			c, bad := pixel.Fade(c, l.Opacity)
			if bad != nil {
				panic(bad)
			}
			faded.P = append(faded.P, c)
		}
		if page, err = raster.Stamp(page, faded, l.X, l.Y, l.Mode); err != nil {
			break
		}
	}
	if err != nil {
		panic(err)
	}
	return page
}

// slowCheck: the error and its place, or -1 of one without a place.
func slowCheck(d Doc) (error, int) {
	isOut := func(n, least, most int) bool { return n < least || n > most }
	if isOut(d.Wide, 1, 256) || isOut(d.High, 1, 256) || isOut(len(d.L), 0, 8) {
		return api.ErrBound, -1
	}
	names := map[string]bool{}
	for i, l := range d.L {
		if !regexp.MustCompile(`\A[a-z]{1,12}\z`).MatchString(l.Name) || names[l.Name] {
			return api.ErrName, i
		}
		names[l.Name] = true
		if isOut(l.X, -10000, 10000) || isOut(l.Y, -10000, 10000) || isOut(l.Opacity, 0, 255) || isOut(l.Mode, 0, 5) {
			return api.ErrBound, i
		}
		if isOut(l.P.Wide, 1, 256) || isOut(l.P.High, 1, 256) || len(l.P.P) != l.P.Wide*l.P.High {
			return api.ErrShape, i
		}
	}
	return nil, -1
}

// slowMove: all layers but one in their order, and that one among them.
func slowMove(l []Layer, at, to int) []Layer {
	var moved []Layer
	for i := range l {
		if i != at {
			moved = append(moved, l[i])
		}
	}
	var list []Layer
	for i := range l {
		if i == to {
			list = append(list, l[at])
		} else {
			list, moved = append(list, moved[0]), moved[1:]
		}
	}
	return list
}
