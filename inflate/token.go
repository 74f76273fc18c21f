package inflate

import (
	"layercake/api"
	"layercake/block"
)

// tokens up to the block's end.
func (r *reader) tokens(c *codes) {
	for symbol := r.symbol(c.symbols); symbol != block.End; symbol = r.symbol(c.symbols) {
		if symbol < block.End {
			r.room(1)
			r.text = append(r.text, byte(symbol))
			continue
		}
		length := r.told(block.Length(symbol))
		r.match(length, r.told(block.Distance(r.symbol(c.distances))))
	}
}

// told: what a symbol tells, with its bits more, if it is one.
func (r *reader) told(from, width int, ok bool) int {
	if !ok {
		throw(api.ErrText)
	}
	return from + r.number(width)
}

// match goes byte by byte, as it may read what it wrote.
func (r *reader) match(length, behind int) {
	if behind > len(r.text) {
		throw(api.ErrText)
	}
	r.room(length)
	for range length {
		r.text = append(r.text, r.text[len(r.text)-behind])
	}
}
