// Package shape: which pictures are right, for all who take pictures: see ../shared/doc/10-png.md.
package shape

import "layercake/api"

// IsSide of a picture: how wide or high it may be.
func IsSide(n int) bool { return n >= 1 && n <= api.MaxSide }

// IsRight: the sides are asked first, so that what they make can't wrap round.
func IsRight(p api.Picture) bool {
	return IsSide(p.Wide) && IsSide(p.High) && len(p.P) == p.Wide*p.High
}
