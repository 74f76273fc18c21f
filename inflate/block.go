package inflate

import "layercake/api"

// Kinds of blocks.
const (
	kindStored = iota
	kindFixed
	kindDynamic
)

// How many there may be of a dynamic block.
const (
	leastSymbols   = 257
	mostSymbols    = 286
	leastDistances = 1
	mostDistances  = 30
	leastOfLengths = 4
)

// Symbols of the code of lengths that are no length.
const (
	lastAgain = 16
	fewZeros  = 17
	manyZeros = 18
)

// ofLengths: the symbols of the code of lengths, in the order in which their own lengths are written.
var ofLengths = [...]int{16, 17, 18, 0, 8, 7, 9, 6, 10, 5, 11, 4, 12, 3, 13, 2, 14, 1, 15}

func (r *reader) blocks() {
	for last := false; !last; {
		last = r.number(1) == 1
		switch r.number(2) {
		case kindStored:
			r.storedBlock()
		case kindFixed:
			r.tokens(r.fixedCodes())
		case kindDynamic:
			r.tokens(r.dynamicCodes())
		default:
			throw(api.ErrText)
		}
	}
}

func (r *reader) storedBlock() {
	r.Align()
	n := r.number(16)
	turned := r.number(16)
	if n^turned != 0xFFFF || n > r.Left()/ofByte {
		throw(api.ErrText)
	}
	r.room(n)
	for range n {
		r.text = append(r.text, byte(r.number(ofByte)))
	}
}

func (r *reader) fixedCodes() *codes {
	if r.fixed == nil {
		var symbols [288]int
		for i := range symbols {
			symbols[i] = fixedLength(i)
		}
		var distances [32]int
		for i := range distances {
			distances[i] = 5
		}
		r.fixed = &codes{tree(symbols[:]), tree(distances[:])}
	}
	return r.fixed
}

func fixedLength(symbol int) int {
	switch {
	case symbol <= 143:
		return 8
	case symbol <= 255:
		return 9
	case symbol <= 279:
		return 7
	}
	return 8
}

func (r *reader) dynamicCodes() *codes {
	symbols := r.number(5) + leastSymbols
	distances := r.number(5) + leastDistances
	count := r.number(4) + leastOfLengths
	if symbols > mostSymbols || distances > mostDistances {
		throw(api.ErrText)
	}
	row := r.lengths(count, symbols+distances)
	if row[blockEnd] == 0 {
		throw(api.ErrText)
	}
	return &codes{tree(row[:symbols]), tree(row[symbols:])}
}

// lengths of all symbols and distances in one row: a run of them may begin among those and end among these.
func (r *reader) lengths(count, all int) []int {
	var own [len(ofLengths)]int
	for i := range count {
		own[ofLengths[i]] = r.number(3)
	}
	code := tree(own[:])
	var row []int
	for len(row) < all {
		length, times := r.run(r.symbol(code), row)
		if times > all-len(row) {
			throw(api.ErrText)
		}
		for range times {
			row = append(row, length)
		}
	}
	return row
}

// run that a symbol of the code of lengths means, behind a row.
func (r *reader) run(symbol int, row []int) (length, times int) {
	switch symbol {
	case lastAgain:
		if len(row) == 0 {
			throw(api.ErrText)
		}
		return row[len(row)-1], 3 + r.number(2)
	case fewZeros:
		return 0, 3 + r.number(3)
	case manyZeros:
		return 0, 11 + r.number(7)
	}
	return symbol, 1
}
