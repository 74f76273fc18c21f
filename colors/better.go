package colors

import (
	"slices"

	"layercake/api"
)

// effort: how often colors may be held against each other in one call, so that a full picture of unlike pixels takes about a second: 16 rounds with most colors. Small pictures come to their end long ahead of it.
const effort = 1 << 28

// settled: made better as long as that helps and the effort lasts. The first round comes always, so that it is no further than the better palette.
func settled(uses []Use, palette []api.Pixel) []api.Pixel {
	near, all := nearest(uses, palette)
	for range effort / (len(uses) * len(palette)) {
		better := means(uses, near, palette)
		nearer, less := nearest(uses, better)
		if less >= all {
			break
		}
		palette, near, all = better, nearer, less
	}
	return palette
}

// means of the pixels that the colors are near to; a color with none stays.
func means(uses []Use, near []int, palette []api.Pixel) []api.Pixel {
	sums := make([]sum, len(palette))
	for i, u := range uses {
		sums[near[i]].add(u)
	}
	l := slices.Clone(palette)
	for i, s := range sums {
		if s.times > 0 {
			l[i] = s.mean()
		}
	}
	return l
}

// sum of pixels, part by part.
type sum struct{ r, g, b, a, times int }

func (s *sum) add(u Use) {
	s.r += int(u.Color.R) * u.Times
	s.g += int(u.Color.G) * u.Times
	s.b += int(u.Color.B) * u.Times
	s.a += int(u.Color.A) * u.Times
	s.times += u.Times
}

func (s sum) mean() api.Pixel {
	rounded := func(n int) uint8 { return uint8((2*n + s.times) / (2 * s.times)) }
	return api.Pixel{R: rounded(s.r), G: rounded(s.g), B: rounded(s.b), A: rounded(s.a)}
}
