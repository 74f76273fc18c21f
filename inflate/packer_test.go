package inflate

import (
	"slices"

	"layercake/bits"
	"layercake/huff"
)

// mixer makes mixed numbers, the same ones at each run.
type mixer uint64

func (m *mixer) below(n int) int {
	*m = *m*6364136223846793005 + 1442695040888963407
	return int(*m>>33) % n
}

func (m *mixer) bytes(n, unlike int) string {
	l := make([]byte, n)
	for i := range l {
		l[i] = byte(m.below(unlike))
	}
	return string(l)
}

// packer writes packed texts bit by bit, wrong ones as well.
type packer struct {
	bits.Writer
	symbols, distances         []uint32
	symbolWidth, distanceWidth []int
}

func pack(f func(p *packer)) string {
	var p packer
	f(&p)
	return p.Text()
}

func (p *packer) head(last, kind int) {
	p.Put(uint32(last), 1)
	p.Put(uint32(kind), 2)
}

func (p *packer) stored(last int, s string) {
	p.head(last, 0)
	p.Align()
	p.Put(uint32(len(s)), 16)
	p.Put(uint32(len(s))^0xFFFF, 16)
	p.raw(s)
}

func (p *packer) raw(s string) {
	for i := range len(s) {
		p.Put(uint32(s[i]), 8)
	}
}

// fixed begins a fixed block, whose words stand here as the numbers at which each width begins.
func (p *packer) fixed(last int) {
	p.head(last, 1)
	p.symbols, p.symbolWidth = nil, nil
	for _, l := range []struct {
		count, width int
		first        uint32
	}{{144, 8, 0b00110000}, {112, 9, 0b110010000}, {24, 7, 0b0000000}, {8, 8, 0b11000000}} {
		for i := range l.count {
			p.symbols = append(p.symbols, l.first+uint32(i))
			p.symbolWidth = append(p.symbolWidth, l.width)
		}
	}
	p.distances, p.distanceWidth = nil, slices.Repeat([]int{5}, 32)
	for i := range 32 {
		p.distances = append(p.distances, uint32(i))
	}
}

// step: a symbol of the code of lengths, and what its bits more tell.
type step struct{ symbol, more int }

// broad: lengths of the code of lengths with a word for each.
func broad() []int { return append(slices.Repeat([]int{4}, 13), slices.Repeat([]int{5}, 6)...) }

// header of a dynamic block: the three counts less what they are told less, the lengths of lengths by symbol, the steps by that code.
func (p *packer) header(last, symbols, distances, count int, own []int, steps []step) {
	p.head(last, 2)
	p.Put(uint32(symbols), 5)
	p.Put(uint32(distances), 5)
	p.Put(uint32(count), 4)
	for _, symbol := range []int{16, 17, 18, 0, 8, 7, 9, 6, 10, 5, 11, 4, 12, 3, 13, 2, 14, 1, 15}[:count+4] {
		p.Put(uint32(own[symbol]), 3)
	}
	words, _ := huff.Codes(own)
	for _, s := range steps {
		if words != nil {
			p.Turned(words[s.symbol], own[s.symbol])
		}
		switch s.symbol {
		case 16:
			p.Put(uint32(s.more), 2)
		case 17:
			p.Put(uint32(s.more), 3)
		case 18:
			p.Put(uint32(s.more), 7)
		}
	}
}

// use lengths for what comes; of those that are not right there are no words.
func (p *packer) use(symbols, distances []int) {
	p.symbols, _ = huff.Codes(symbols)
	p.distances, _ = huff.Codes(distances)
	p.symbolWidth, p.distanceWidth = symbols, distances
}

// dynamic begins a dynamic block of such lengths, each told by itself.
func (p *packer) dynamic(last int, symbols, distances []int) {
	p.header(last, len(symbols)-257, len(distances)-1, 15, broad(), each(slices.Concat(symbols, distances)))
	p.use(symbols, distances)
}

func each(lengths []int) []step {
	var l []step
	for _, n := range lengths {
		l = append(l, step{n, 0})
	}
	return l
}

func (p *packer) symbol(n int) { p.Turned(p.symbols[n], p.symbolWidth[n]) }

func (p *packer) word(s string) {
	for i := range len(s) {
		p.symbol(int(s[i]))
	}
}

func (p *packer) end() { p.symbol(256) }

// match by its symbols, and what their bits more tell.
func (p *packer) match(symbol, more, distance, farMore int) {
	_, width := slowLength(symbol)
	p.symbol(symbol)
	p.Put(uint32(more), width)
	p.far(distance, farMore)
}

func (p *packer) far(distance, more int) {
	_, width := slowDistance(distance)
	p.Turned(p.distances[distance], p.distanceWidth[distance])
	p.Put(uint32(more), width)
}

// lengths of n symbols of which just these have words, which are right.
func some(n int, words map[int]int) []int {
	l := make([]int, n)
	for symbol, width := range words {
		l[symbol] = width
	}
	return l
}

// splits: right lengths of n words among all symbols, made by splitting words; the symbol always has one.
func (m *mixer) splits(n, all, always int) []int {
	l := []int{0}
	for len(l) < n {
		i := m.below(len(l))
		if l[i] < 15 {
			l[i]++
			l = append(l, l[i])
		}
	}
	if n == 1 {
		l[0] = 1
	}
	l = append(l, make([]int, all-n)...)
	for i := range l {
		k := i + m.below(len(l)-i)
		l[i], l[k] = l[k], l[i]
	}
	for i := range l {
		if l[always] == 0 && l[i] > 0 {
			l[always], l[i] = l[i], l[always]
		}
	}
	return l
}
