package colors

import (
	"cmp"
	"slices"

	"layercake/api"
)

// counted pixels: the unlike ones, as they come first, and of each pixel the number of its like. What is asked of a color is so worked out once, however often it is used.
func counted(pixels []api.Pixel) (uses []Use, numbers []int) {
	known := map[api.Pixel]int{}
	numbers = make([]int, 0, len(pixels))
	for _, c := range pixels {
		n, ok := known[c]
		if !ok {
			n = len(uses)
			known[c] = n
			uses = append(uses, Use{Color: c})
		}
		uses[n].Times++
		numbers = append(numbers, n)
	}
	return uses, numbers
}

func colorsOf(uses []Use) []api.Pixel {
	l := make([]api.Pixel, 0, len(uses))
	for _, u := range uses {
		l = append(l, u.Color)
	}
	return l
}

// mostUsed colors, the first of those that are used as often.
func mostUsed(uses []Use, most int) []api.Pixel {
	l := slices.Clone(uses)
	slices.SortStableFunc(l, func(a, b Use) int { return cmp.Compare(b.Times, a.Times) })
	return colorsOf(l[:min(most, len(l))])
}
