package deflate

import (
	"slices"

	"layercake/api"
	"layercake/block"
	"layercake/huff"
)

// mostOwn bits of a word of the code of lengths, as three bits tell how many.
const mostOwn = 7

func dynamic(_ string, l []api.Token) string {
	var w writer
	w.head(true, block.Dynamic)
	c := cheapest(l)
	w.lengths(used(c.symbols.lengths, block.LeastSymbols), used(c.distances.lengths, block.LeastDistances))
	w.tokens(l, c)
	return w.Text()
}

// cheapest codes of tokens, by how often each symbol stands in their block.
func cheapest(l []api.Token) codes {
	var symbols [block.MostSymbols]int
	var distances [block.MostDistances]int
	for _, t := range l {
		if t.Length == 0 {
			symbols[t.Byte]++
			continue
		}
		symbols[block.SymbolOfLength(t.Length)]++
		distances[block.SymbolOfDistance(t.Behind)]++
	}
	symbols[block.End]++
	return codes{best(symbols[:], api.MaxCode), best(distances[:], api.MaxCode)}
}

func best(counts []int, most int) code {
	lengths, _ := huff.Lengths(counts, most) // no count is above that of the bytes there may be
	return codeOf(lengths)
}

// used lengths: without those of no word at the end, but at least so many.
func used(lengths []int, least int) []int {
	n := len(lengths)
	for n > least && lengths[n-1] == 0 {
		n--
	}
	return lengths[:n]
}

// lengths of a block's symbols and distances, and ahead of them the code by which they are written. They are one row: a run may go on from those into these.
func (w *writer) lengths(symbols, distances []int) {
	list := steps(slices.Concat(symbols, distances))
	own := ownCode(list)
	inOrder := used(ordered(own.lengths), block.LeastOfLengths)
	w.number(len(symbols)-block.LeastSymbols, 5)
	w.number(len(distances)-block.LeastDistances, 5)
	w.number(len(inOrder)-block.LeastOfLengths, 4)
	for _, n := range inOrder {
		w.number(n, 3)
	}
	for _, s := range list {
		w.symbol(own, s.symbol)
		_, width := block.Times(s.symbol)
		w.number(s.more, width)
	}
}

// ordered: lengths of lengths as they are written.
func ordered(own []int) []int {
	var list []int
	for _, symbol := range block.OfLengths() {
		list = append(list, own[symbol])
	}
	return list
}

// step of a row of lengths: a symbol of their code, and how many times more than at least it tells a length.
type step struct{ symbol, more int }

func ownCode(list []step) code {
	var counts [block.MostOfLengths]int
	for _, s := range list {
		counts[s.symbol]++
	}
	return best(counts[:], mostOwn)
}

// steps of a row of lengths, run by run.
func steps(row []int) []step {
	var list []step
	for len(row) > 0 {
		n := run(row)
		list = append(list, stepsOfRun(row[0], n)...)
		row = row[n:]
	}
	return list
}

// run of one length that a row begins with: how often.
func run(row []int) int {
	n := 0
	for n < len(row) && row[n] == row[0] {
		n++
	}
	return n
}

func stepsOfRun(length, times int) []step {
	if length == 0 {
		return again(nil, 0, times, block.ManyZeros, block.FewZeros)
	}
	return again([]step{{length, 0}}, length, times-1, block.LastAgain)
}

// again the same length, so many times: by the first symbol that does not tell more of them, else by itself.
func again(list []step, length, times int, symbols ...int) []step {
	for times > 0 {
		s, told := step{length, 0}, 1
		for _, symbol := range symbols {
			if least, width := block.Times(symbol); times >= least {
				told = min(times, least+1<<width-1)
				s = step{symbol, told - least}
				break
			}
		}
		list = append(list, s)
		times -= told
	}
	return list
}
