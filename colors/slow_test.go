package colors

import (
	"math/big"

	"layercake/api"
)

// A second way, as plain and slow as can be, in the chapter's own words: pixel by pixel, lists gone through from the front, means as fractions. The tests hold the package against it.

func slowCount(p api.Picture) []Use {
	var l []Use
next:
	for _, c := range p.P {
		for i := range l {
			if l[i].Color == c {
				l[i].Times++
				continue next
			}
		}
		l = append(l, Use{c, 1})
	}
	return l
}

func slowExact(p api.Picture) (palette []api.Pixel, numbers []int) {
	for _, u := range slowCount(p) {
		palette = append(palette, u.Color)
	}
	for _, c := range p.P {
		for i, x := range palette {
			if x == c {
				numbers = append(numbers, i)
			}
		}
	}
	return palette, numbers
}

func slowApart(a, b api.Pixel) int {
	sum := 0
	for _, c := range [][2]uint8{{a.R, b.R}, {a.G, b.G}, {a.B, b.B}, {a.A, b.A}} {
		by := int(max(c[0], c[1])) - int(min(c[0], c[1]))
		sum += by * by
	}
	return sum
}

func slowMap(p api.Picture, palette []api.Pixel) (numbers []int, far int) {
	for _, c := range p.P {
		// From the last one on, so that the first of those that are as far stays.
		best := len(palette) - 1
		for i := len(palette) - 1; i >= 0; i-- {
			if slowApart(c, palette[i]) <= slowApart(c, palette[best]) {
				best = i
			}
		}
		numbers, far = append(numbers, best), far+slowApart(c, palette[best])
	}
	return numbers, far
}

// slowMean, halves up: the whole number below the mean and a half.
func slowMean(l []uint8) uint8 {
	sum := new(big.Rat)
	for _, n := range l {
		sum.Add(sum, big.NewRat(int64(n), 1))
	}
	sum.Quo(sum, big.NewRat(int64(len(l)), 1))
	sum.Add(sum, big.NewRat(1, 2))
	return uint8(new(big.Int).Div(sum.Num(), sum.Denom()).Int64())
}

func slowBetter(p api.Picture, palette []api.Pixel) []api.Pixel {
	numbers, _ := slowMap(p, palette)
	var l []api.Pixel
	for i, old := range palette {
		var r, g, b, a []uint8
		for at, n := range numbers {
			if n == i {
				c := p.P[at]
				r, g, b, a = append(r, c.R), append(g, c.G), append(b, c.B), append(a, c.A)
			}
		}
		if len(r) == 0 {
			l = append(l, old)
			continue
		}
		l = append(l, api.Pixel{R: slowMean(r), G: slowMean(g), B: slowMean(b), A: slowMean(a)})
	}
	return l
}

// slowMostUsed: taken one by one, each time the first one that is used most of those that are left.
func slowMostUsed(p api.Picture, most int) []api.Pixel {
	left := slowCount(p)
	var l []api.Pixel
	for len(l) < most && len(left) > 0 {
		best := 0
		for i, u := range left {
			if u.Times > left[best].Times {
				best = i
			}
		}
		l = append(l, left[best].Color)
		left = append(left[:best:best], left[best+1:]...)
	}
	return l
}
