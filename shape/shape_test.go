package shape

import (
	"math"
	"testing"

	"layercake/api"
)

// P100

func TestSides(t *testing.T) {
	for n := -300; n <= 600; n++ {
		if got := IsSide(n); got != (n >= 1 && n <= 256) {
			t.Errorf("IsSide(%d): %t", n, got)
		}
	}
	for _, n := range []int{math.MinInt, math.MinInt + 1, -1 << 32, 1 << 32, 1<<32 + 1, math.MaxInt} {
		if IsSide(n) {
			t.Errorf("IsSide(%d)", n)
		}
	}
}

func TestRight(t *testing.T) {
	of := func(wide, high, many int) api.Picture {
		return api.Picture{Wide: wide, High: high, P: make([]api.Pixel, many)}
	}
	for _, c := range [][2]int{{1, 1}, {1, 256}, {256, 1}, {256, 256}, {3, 2}} {
		many := c[0] * c[1]
		if !IsRight(of(c[0], c[1], many)) {
			t.Errorf("%v is not right", c)
		}
		if IsRight(of(c[0], c[1], many-1)) || IsRight(of(c[0], c[1], many+1)) || IsRight(of(c[0], c[1], 0)) {
			t.Errorf("%v is right with too few or too many", c)
		}
	}
	for _, p := range []api.Picture{
		{}, of(0, 0, 0), of(0, 1, 0), of(1, 0, 0), of(0, 5, 5), of(257, 1, 257), of(1, 257, 257), of(-1, -1, 1), of(-2, 3, 6), of(-1, 1, 0),
		of(1<<32, 1<<32, 0), of(math.MinInt, 2, 0), of(2, math.MinInt, 0), of(math.MaxInt, math.MaxInt, 1), of(1<<16, 1<<48, 0),
	} {
		if IsRight(p) {
			t.Errorf("%d by %d with %d pixels is right", p.Wide, p.High, len(p.P))
		}
	}
	// Room behind the pixels does not count.
	if p := of(2, 2, 5); IsRight(p) || !IsRight(api.Picture{Wide: 2, High: 2, P: p.P[:4]}) {
		t.Error("room counts")
	}
}

// P121, P123, P140

func TestNear(t *testing.T) {
	for n := -10100; n <= 10100; n++ {
		if got := AreNear(n); got != (n >= -10000 && n <= 10000) {
			t.Errorf("AreNear(%d): %t", n, got)
		}
	}
	for _, n := range []int{math.MinInt, math.MinInt + 1, -1 << 32, -10001, 10001, 1 << 31, 1 << 32, 1<<32 + 1, math.MaxInt} {
		for i := range 4 {
			l := []int{0, -10000, 10000, 1}
			if !AreNear(l...) {
				t.Error("near ones are not near")
			}
			if l[i] = n; AreNear(l...) {
				t.Errorf("%v are near", l)
			}
		}
	}
	if !AreNear() {
		t.Error("none are not near")
	}
}
