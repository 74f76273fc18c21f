// Package shape: which pictures are right, and where they may lie, for all who take pictures: see ../shared/doc/10-png.md and ../shared/doc/12-raster.md.
package shape

import "layercake/api"

const farthest = 10000 // how far from a picture's left top corner a place may be told

// IsSide of a picture: how wide or high it may be.
func IsSide(n int) bool { return n >= 1 && n <= api.MaxSide }

// IsRight: the sides are asked first, so that what they make can't wrap round.
func IsRight(p api.Picture) bool {
	return IsSide(p.Wide) && IsSide(p.High) && len(p.P) == p.Wide*p.High
}

// AreNear: places that may be told, also outside a picture; what they make with a picture's sides can't wrap round.
func AreNear(l ...int) bool {
	for _, n := range l {
		if n < -farthest || n > farthest {
			return false
		}
	}
	return true
}
