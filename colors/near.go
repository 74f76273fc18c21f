package colors

import "layercake/api"

// nearest: of each use the number of the least far color, and how far all pixels are from these together.
func nearest(uses []Use, palette []api.Pixel) (near []int, all int) {
	near = make([]int, 0, len(uses))
	for _, u := range uses {
		number, least := leastFar(u.Color, palette)
		near = append(near, number)
		all += least * u.Times
	}
	return near, all
}

// leastFar color of a palette that has some.
func leastFar(c api.Pixel, palette []api.Pixel) (number, least int) {
	for i, other := range palette {
		if n := apart(c, other); i == 0 || n < least {
			number, least = i, n
		}
	}
	return number, least
}

func apart(a, b api.Pixel) int {
	return squared(a.R, b.R) + squared(a.G, b.G) + squared(a.B, b.B) + squared(a.A, b.A)
}

func squared(a, b uint8) int {
	n := int(a) - int(b)
	return n * n
}
