package inflate

import (
	"layercake/api"
	"layercake/block"
)

func (r *reader) blocks() {
	for last := false; !last; {
		last = r.number(1) == 1
		switch r.number(2) {
		case block.Stored:
			r.storedBlock()
		case block.Fixed:
			r.tokens(r.fixedCodes())
		case block.Dynamic:
			r.tokens(r.dynamicCodes())
		default:
			throw(api.ErrText)
		}
	}
}

func (r *reader) storedBlock() {
	r.Align()
	n := r.number(16)
	turned := r.number(16)
	if n^turned != 0xFFFF || n > r.Left()/ofByte {
		throw(api.ErrText)
	}
	r.room(n)
	for range n {
		r.text = append(r.text, byte(r.number(ofByte)))
	}
}

func (r *reader) fixedCodes() *codes {
	if r.fixed == nil {
		r.fixed = &codes{tree(block.FixedSymbols()), tree(block.FixedDistances())}
	}
	return r.fixed
}

func (r *reader) dynamicCodes() *codes {
	symbols := r.number(5) + block.LeastSymbols
	distances := r.number(5) + block.LeastDistances
	count := r.number(4) + block.LeastOfLengths
	if symbols > block.MostSymbols || distances > block.MostDistances {
		throw(api.ErrText)
	}
	row := r.lengths(count, symbols+distances)
	if row[block.End] == 0 {
		throw(api.ErrText)
	}
	return &codes{tree(row[:symbols]), tree(row[symbols:])}
}

// lengths of all symbols and distances in one row: a run of them may begin among those and end among these.
func (r *reader) lengths(count, all int) []int {
	var own [block.MostOfLengths]int
	order := block.OfLengths()
	for i := range count {
		own[order[i]] = r.number(3)
	}
	code := tree(own[:])
	var row []int
	for len(row) < all {
		length, times := r.run(r.symbol(code), row)
		if times > all-len(row) {
			throw(api.ErrText)
		}
		for range times {
			row = append(row, length)
		}
	}
	return row
}

// run that a symbol of the code of lengths means, behind a row.
func (r *reader) run(symbol int, row []int) (length, times int) {
	switch symbol {
	case block.LastAgain:
		if len(row) == 0 {
			throw(api.ErrText)
		}
		length = row[len(row)-1]
	case block.FewZeros, block.ManyZeros:
		length = 0
	default:
		length = symbol
	}
	least, width := block.Times(symbol)
	return length, least + r.number(width)
}
