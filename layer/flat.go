package layer

import (
	"layercake/api"
	"layercake/pixel"
)

// Flatten a document.
func Flatten(d Doc) (api.Picture, error) {
	if err := Check(d); err != nil {
		return api.Picture{}, err
	}
	return flat(d), nil
}

// Look at a pixel.
func Look(d Doc, x, y int) (api.Pixel, error) {
	if err := Check(d); err != nil {
		return api.Pixel{}, err
	}
	if x < 0 || x >= d.Wide || y < 0 || y >= d.High {
		return api.Pixel{}, api.ErrBound
	}
	return seen(d.L, x, y), nil
}

// flat picture of a document that is right.
func flat(d Doc) api.Picture {
	l := make([]api.Pixel, 0, d.Wide*d.High)
	for y := range d.High {
		for x := range d.Wide {
			l = append(l, seen(d.L, x, y))
		}
	}
	return api.Picture{Wide: d.Wide, High: d.High, P: l}
}

// seen of layers that are right, at one place: a single look need not flatten all.
func seen(l []Layer, x, y int) api.Pixel {
	var c api.Pixel
	for _, one := range l {
		// What covers nothing leaves what lies below it as it is, in every mode.
		if top := shown(one, x, y); top.A > 0 {
			c, _ = pixel.Over(one.Mode, top, c)
		}
	}
	return c
}

// shown of one layer at a place of the document: the zero pixel where it shows nothing.
func shown(l Layer, x, y int) api.Pixel {
	x, y = x-l.X, y-l.Y
	if l.Hidden || x < 0 || x >= l.P.Wide || y < 0 || y >= l.P.High {
		return api.Pixel{}
	}
	c, _ := pixel.Fade(l.P.P[y*l.P.Wide+x], l.Opacity)
	return c
}
