package inflate

import (
	"layercake/api"
	"layercake/huff"
)

// blockEnd is the symbol between those of bytes and those of lengths.
const blockEnd = 256

// What a match's length, and its distance, begins from, by symbol.
var (
	lengthFrom   = [...]int{3, 4, 5, 6, 7, 8, 9, 10, 11, 13, 15, 17, 19, 23, 27, 31, 35, 43, 51, 59, 67, 83, 99, 115, 131, 163, 195, 227, 258}
	distanceFrom = [...]int{1, 2, 3, 4, 5, 7, 9, 13, 17, 25, 33, 49, 65, 97, 129, 193, 257, 385, 513, 769, 1025, 1537, 2049, 3073, 4097, 6145, 8193, 12289, 16385, 24577}
)

// tokens up to the block's end.
func (r *reader) tokens(c *codes) {
	for symbol := r.symbol(c.symbols); symbol != blockEnd; symbol = r.symbol(c.symbols) {
		if symbol < blockEnd {
			r.room(1)
			r.text = append(r.text, byte(symbol))
			continue
		}
		length := r.length(symbol - blockEnd - 1)
		r.match(length, r.distance(c.distances))
	}
}

// length of a match, by its place in the row.
func (r *reader) length(at int) int {
	if at >= len(lengthFrom) {
		throw(api.ErrText)
	}
	return lengthFrom[at] + r.number(lengthBits(at))
}

// lengthBits grow by one every four; the last length, the greatest one, stands alone.
func lengthBits(at int) int {
	if at == len(lengthFrom)-1 {
		return 0
	}
	return max(at/4-1, 0)
}

func (r *reader) distance(t *huff.Tree) int {
	at := r.symbol(t)
	if at >= len(distanceFrom) {
		throw(api.ErrText)
	}
	return distanceFrom[at] + r.number(distanceBits(at))
}

// distanceBits grow by one every two.
func distanceBits(at int) int { return max(at/2-1, 0) }

// match goes byte by byte, as it may read what it wrote.
func (r *reader) match(length, behind int) {
	if behind > len(r.text) {
		throw(api.ErrText)
	}
	r.room(length)
	for range length {
		r.text = append(r.text, r.text[len(r.text)-behind])
	}
}
