package filter

import "math"

// Kinds of rows: what a byte is told less of.
const (
	asItIs = iota
	lessBack
	lessAhead
	lessHalf
	lessNearest
	kinds
)

func known(kind int) bool { return kind >= 0 && kind < kinds }

// foretold byte of a row. An empty row ahead is all 0.
func foretold(kind int, row, ahead []byte, at, step int) byte {
	var a, b, c byte
	if at >= step {
		a = row[at-step]
	}
	if len(ahead) > 0 {
		b = ahead[at]
		if at >= step {
			c = ahead[at-step]
		}
	}
	switch kind {
	case lessBack:
		return a
	case lessAhead:
		return b
	case lessHalf:
		return half(a, b)
	case lessNearest:
		return nearest(a, b, c)
	}
	return 0
}

// half of both together: as numbers that hold it, for it may be beyond a byte.
func half(a, b byte) byte { return byte((int(a) + int(b)) / 2) }

// nearest to a + b - c, of the three.
func nearest(a, b, c byte) byte {
	aim := int(a) + int(b) - int(c)
	found := a
	if apart(aim, b) < apart(aim, found) {
		found = b
	}
	if apart(aim, c) < apart(aim, found) {
		found = c
	}
	return found
}

func apart(aim int, of byte) int {
	n := aim - int(of)
	return max(n, -n)
}

// do a row, behind what is done.
func do(done []byte, kind int, row, ahead []byte, step int) []byte {
	for i := range len(row) {
		done = append(done, row[i]-foretold(kind, row, ahead, i, step))
	}
	return done
}

// undo a row, in its place: what foretells a byte is then as it was.
func undo(kind int, row, ahead []byte, step int) {
	for i := range len(row) {
		row[i] += foretold(kind, row, ahead, i, step)
	}
}

func best(row, ahead []byte, step int) int {
	found, least := asItIs, math.MaxInt
	for kind := range kinds {
		if n := cost(kind, row, ahead, step); n < least {
			found, least = kind, n
		}
	}
	return found
}

// cost of a row by a kind: how far its bytes are from 0, round either way.
func cost(kind int, row, ahead []byte, step int) int {
	sum := 0
	for i := range len(row) {
		n := int(row[i] - foretold(kind, row, ahead, i, step))
		sum += min(n, 256-n)
	}
	return sum
}
