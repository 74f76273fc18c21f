package film

import (
	"layercake/api"
	"layercake/gif"
	"layercake/rows"
	"layercake/shape"
)

// film whose frames are packed, and all of one size.
type film struct {
	wide, high, loops int
	frames            []frame
}

type frame struct {
	delay int
	rows  string
}

// packed frames that were checked: so they are not too many to be packed.
func packed(l []gif.Frame, loops int) (film, error) {
	f := film{wide: l[0].P.Wide, high: l[0].P.High, loops: loops}
	for _, x := range l {
		s, err := rows.Pack(x.P)
		if err != nil {
			return film{}, err
		}
		f.frames = append(f.frames, frame{x.Delay, s})
	}
	return f, nil
}

// unpacked frames, up to the first one that can't be.
func (f film) unpacked() ([]gif.Frame, error) {
	var l []gif.Frame
	for _, x := range f.frames {
		p, err := rows.Pixels(x.rows, f.wide, f.high)
		if err != nil {
			return nil, err
		}
		l = append(l, gif.Frame{P: api.Picture{Wide: f.wide, High: f.high, P: p}, Delay: x.delay})
	}
	return l, nil
}

// isSome: Write takes such frames, whatever their pixels are: so blank ones are asked, and nothing is unpacked for it.
func (f film) isSome() bool {
	if !shape.IsSide(f.wide) || !shape.IsSide(f.high) {
		return false
	}
	blank := api.Picture{Wide: f.wide, High: f.high, P: make([]api.Pixel, f.wide*f.high)}
	var l []gif.Frame
	for _, x := range f.frames {
		l = append(l, gif.Frame{P: blank, Delay: x.delay})
	}
	return gif.Check(l, f.loops) == nil
}
