// Package rows: pixels by R, G, B and A in rows that are foretold and packed, for all whose files have them: see ../shared/doc/10-png.md.
package rows

import (
	"layercake/api"
	"layercake/deflate"
	"layercake/filter"
	"layercake/inflate"
)

const pixelSize = 4

// Pack the pixels of a picture that is right: they are never so many that they would be too long.
func Pack(p api.Picture) (string, error) {
	l := make([]byte, 0, pixelSize*len(p.P))
	for _, x := range p.P {
		l = append(l, x.R, x.G, x.B, x.A)
	}
	s, err := filter.Rows(string(l), pixelSize*p.Wide, pixelSize)
	if err != nil {
		return "", err
	}
	return deflate.Zip(s)
}

// Pixels that are packed.
func Pixels(packed string, wide, high int) ([]api.Pixel, error) {
	s, err := Bytes(packed, pixelSize*wide, high, pixelSize)
	if err != nil {
		return nil, err
	}
	l := make([]api.Pixel, 0, wide*high)
	for i := range wide * high {
		x := s[pixelSize*i:]
		l = append(l, api.Pixel{R: x[0], G: x[1], B: x[2], A: x[3]})
	}
	return l, nil
}

// Bytes that are packed, of just so many rows, whatever they mean.
func Bytes(packed string, wide, high, step int) (string, error) {
	size := high * (wide + 1)
	text, err := inflate.Unzip(packed, size)
	if err != nil {
		return "", err
	}
	if len(text) < size {
		return "", api.ErrText
	}
	s, err := filter.Back(text, wide, step)
	if err != nil {
		// Bare: a file's errors have no place among its rows.
		return "", api.ErrText
	}
	return s, nil
}
