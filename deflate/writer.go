package deflate

import (
	"layercake/api"
	"layercake/bits"
	"layercake/block"
	"layercake/huff"
)

const (
	ofByte     = 8
	mostStored = 65535
)

// writer of blocks. Its numbers fit their widths by what a block is made of: so nothing that it writes can fail.
type writer struct{ bits.Writer }

func (w *writer) number(n, width int) { w.Put(uint32(n), width) }

func (w *writer) head(last bool, kind int) {
	bit := 0
	if last {
		bit = 1
	}
	w.number(bit, 1)
	w.number(kind, 2)
}

// code: of each symbol how many bits its word has, and the word.
type code struct {
	lengths []int
	words   []uint32
}

func codeOf(lengths []int) code {
	words, _ := huff.Codes(lengths) // right ones, all of them
	return code{lengths, words}
}

func (w *writer) symbol(c code, n int) { w.Turned(c.words[n], c.lengths[n]) }

// codes of a block: of its symbols and of its distances.
type codes struct{ symbols, distances code }

// tokens, and the block's end.
func (w *writer) tokens(l []api.Token, c codes) {
	for _, t := range l {
		if t.Length == 0 {
			w.symbol(c.symbols, int(t.Byte))
			continue
		}
		length, distance := block.SymbolOfLength(t.Length), block.SymbolOfDistance(t.Behind)
		from, width, _ := block.Length(length)
		w.symbol(c.symbols, length)
		w.number(t.Length-from, width)
		from, width, _ = block.Distance(distance)
		w.symbol(c.distances, distance)
		w.number(t.Behind-from, width)
	}
	w.symbol(c.symbols, block.End)
}

func stored(s string, _ []api.Token) string {
	var w writer
	for len(s) > mostStored {
		w.storedBlock(s[:mostStored], false)
		s = s[mostStored:]
	}
	w.storedBlock(s, true)
	return w.Text()
}

func (w *writer) storedBlock(s string, last bool) {
	w.head(last, block.Stored)
	w.Align()
	w.number(len(s), 16)
	w.number(len(s)^0xFFFF, 16)
	for i := range len(s) {
		w.number(int(s[i]), ofByte)
	}
}

func fixed(_ string, l []api.Token) string {
	var w writer
	w.head(true, block.Fixed)
	w.tokens(l, codes{codeOf(block.FixedSymbols()), codeOf(block.FixedDistances())})
	return w.Text()
}
