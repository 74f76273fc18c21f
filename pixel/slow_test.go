package pixel

import (
	"fmt"
	"math/big"

	"layercake/api"
)

// A second way for every call, as plain and slow as can be: by whole fractions from 0 to 1. The tests hold the package against it.

func part(n uint8) *big.Rat { return big.NewRat(int64(n), 255) }

func plus(x, y *big.Rat) *big.Rat  { return new(big.Rat).Add(x, y) }
func minus(x, y *big.Rat) *big.Rat { return new(big.Rat).Sub(x, y) }
func times(x, y *big.Rat) *big.Rat { return new(big.Rat).Mul(x, y) }
func rest(x *big.Rat) *big.Rat     { return minus(big.NewRat(1, 1), x) }

// nearestTo a number: what is whole of it and a half.
func nearestTo(x *big.Rat) uint8 {
	y := plus(x, big.NewRat(1, 2))
	n := new(big.Int).Div(y.Num(), y.Denom())
	if n.Sign() < 0 || n.Cmp(big.NewInt(255)) > 0 {
		panic("beyond a byte")
	}
	return uint8(n.Int64())
}

func slowMeet(mode int, s, d *big.Rat) *big.Rat {
	switch mode {
	case 0:
		return s
	case 1:
		return times(s, d)
	case 2:
		return rest(times(rest(s), rest(d)))
	case 3:
		if s.Cmp(d) < 0 {
			return s
		}
		return d
	case 4:
		if s.Cmp(d) < 0 {
			return d
		}
		return s
	}
	return new(big.Rat).Abs(minus(s, d))
}

func slowOver(mode int, top, below api.Pixel) api.Pixel {
	a, b := part(top.A), part(below.A)
	covers := plus(a, times(b, rest(a)))
	if covers.Sign() == 0 {
		return api.Pixel{}
	}
	color := func(of, under uint8) uint8 {
		s, d := part(of), part(under)
		sum := plus(times(times(a, rest(b)), s), times(times(b, rest(a)), d))
		sum = plus(sum, times(times(a, b), slowMeet(mode, s, d)))
		return nearestTo(times(new(big.Rat).Quo(sum, covers), big.NewRat(255, 1)))
	}
	return api.Pixel{R: color(top.R, below.R), G: color(top.G, below.G), B: color(top.B, below.B), A: nearestTo(times(covers, big.NewRat(255, 1)))}
}

func slowFade(p api.Pixel, opacity int) api.Pixel {
	p.A = nearestTo(big.NewRat(int64(p.A)*int64(opacity), 255))
	if p.A == 0 {
		return api.Pixel{}
	}
	return p
}

// slowMix: as if each pixel stood there as often as it covers.
func slowMix(l []api.Pixel) api.Pixel {
	var reds, greens, blues, covers []uint8
	for _, p := range l {
		for range p.A {
			reds, greens, blues = append(reds, p.R), append(greens, p.G), append(blues, p.B)
		}
		covers = append(covers, p.A)
	}
	if len(reds) == 0 {
		return api.Pixel{}
	}
	return api.Pixel{R: mean(reds), G: mean(greens), B: mean(blues), A: mean(covers)}
}

func mean(l []uint8) uint8 {
	sum := new(big.Rat)
	for _, n := range l {
		sum.Add(sum, big.NewRat(int64(n), 1))
	}
	return nearestTo(sum.Quo(sum, big.NewRat(int64(len(l)), 1)))
}

func slowText(p api.Pixel) string { return fmt.Sprintf("%02x%02x%02x%02x", p.R, p.G, p.B, p.A) }

// slowRead: among all texts of each two digits.
func slowRead(s string) (p api.Pixel, ok bool) {
	if len(s) != 8 {
		return p, false
	}
	for i, to := range []*uint8{&p.R, &p.G, &p.B, &p.A} {
		found := false
		for n := range 256 {
			if fmt.Sprintf("%02x", n) == s[2*i:2*i+2] {
				*to, found = uint8(n), true
			}
		}
		if !found {
			return api.Pixel{}, false
		}
	}
	return p, true
}
