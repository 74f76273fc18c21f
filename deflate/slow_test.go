package deflate

import (
	"slices"
	"strconv"
	"strings"

	"layercake/api"
)

// A second writer of stored and fixed blocks, and a reader of dynamic ones, as plain and slow as can be: bits are characters. The tests hold the package against them.

func lowestFirst(n, width int) string {
	l := []byte(highestOf(n, width))
	slices.Reverse(l)
	return string(l)
}

// highestOf: the bits of a number, the highest first.
func highestOf(n, width int) string {
	if width == 0 {
		return ""
	}
	s := strconv.FormatInt(int64(n), 2)
	return strings.Repeat("0", width-len(s)) + s
}

// textOf characters 0 and 1, with 0 up to a whole byte.
func textOf(bits string) string {
	var b strings.Builder
	for len(bits)%8 != 0 {
		bits += "0"
	}
	for i := 0; i < len(bits); i += 8 {
		l := []byte(bits[i : i+8])
		slices.Reverse(l)
		n, _ := strconv.ParseUint(string(l), 2, 8)
		b.WriteByte(byte(n))
	}
	return b.String()
}

func bitsOf(s string) string {
	var b strings.Builder
	for i := range len(s) {
		b.WriteString(lowestFirst(int(s[i]), 8))
	}
	return b.String()
}

func slowStored(s string) string {
	var b strings.Builder
	for first := true; first || s != ""; first = false {
		piece := s[:min(len(s), 65535)]
		s = s[len(piece):]
		last := byte(0)
		if s == "" {
			last = 1
		}
		low, high := byte(len(piece)%256), byte(len(piece)/256)
		b.Write([]byte{last, low, high, 255 - low, 255 - high})
		b.WriteString(piece)
	}
	return b.String()
}

// slowLength and slowDistance count up from how many bits each symbol has.
func slowLength(length int) (symbol, more, width int) {
	if length == 258 {
		return 285, 0, 0
	}
	from := 3
	for symbol = 257; ; symbol++ {
		width = max(0, (symbol-261)/4)
		if length < from+1<<width {
			return symbol, length - from, width
		}
		from += 1 << width
	}
}

func slowDistance(behind int) (symbol, more, width int) {
	from := 1
	for symbol = 0; ; symbol++ {
		width = max(0, symbol/2-1)
		if behind < from+1<<width {
			return symbol, behind - from, width
		}
		from += 1 << width
	}
}

func slowFixed(l []api.Token) string {
	var b strings.Builder
	b.WriteString("110")
	for _, t := range l {
		if t.Length == 0 {
			b.WriteString(fixedWord(int(t.Byte)))
			continue
		}
		symbol, more, width := slowLength(t.Length)
		b.WriteString(fixedWord(symbol) + lowestFirst(more, width))
		symbol, more, width = slowDistance(t.Behind)
		b.WriteString(highestOf(symbol, 5) + lowestFirst(more, width))
	}
	return textOf(b.String() + fixedWord(256))
}

func fixedWord(symbol int) string {
	switch {
	case symbol < 144:
		return highestOf(0b00110000+symbol, 8)
	case symbol < 256:
		return highestOf(0b110010000+symbol-144, 9)
	case symbol < 280:
		return highestOf(symbol-256, 7)
	}
	return highestOf(0b11000000+symbol-280, 8)
}

// slow reader of one dynamic block.
type slow struct {
	rest               string
	symbols, distances []int
}

func (r *slow) number(width int) int {
	l := []byte("0" + r.rest[:width])
	r.rest = r.rest[width:]
	slices.Reverse(l[1:])
	n, _ := strconv.ParseInt(string(l), 2, 64)
	return int(n)
}

// words of lengths, by counting up, length by length.
func words(lengths []int) map[string]int {
	all := map[string]int{}
	next := 0
	for n := 1; n <= 15; n++ {
		next *= 2
		for symbol, length := range lengths {
			if length == n {
				all[highestOf(next, n)] = symbol
				next++
			}
		}
	}
	return all
}

func (r *slow) symbol(words map[string]int) int {
	for n := 1; ; n++ {
		if symbol, ok := words[r.rest[:n]]; ok {
			r.rest = r.rest[n:]
			return symbol
		}
	}
}

// header of a block that is a dynamic one, and the last one.
func (r *slow) header() bool {
	if r.number(1) != 1 || r.number(2) != 2 {
		return false
	}
	symbols, distances, count := r.number(5)+257, r.number(5)+1, r.number(4)+4
	own := make([]int, 19)
	for _, symbol := range []int{16, 17, 18, 0, 8, 7, 9, 6, 10, 5, 11, 4, 12, 3, 13, 2, 14, 1, 15}[:count] {
		own[symbol] = r.number(3)
	}
	code := words(own)
	var row []int
	for len(row) < symbols+distances {
		switch symbol := r.symbol(code); symbol {
		case 16:
			row = append(row, slices.Repeat(row[len(row)-1:], 3+r.number(2))...)
		case 17:
			row = append(row, make([]int, 3+r.number(3))...)
		case 18:
			row = append(row, make([]int, 11+r.number(7))...)
		default:
			row = append(row, symbol)
		}
	}
	r.symbols, r.distances = row[:symbols], row[symbols:]
	return symbols <= 286 && distances <= 30 && len(row) == symbols+distances
}

func (r *slow) tokens() []api.Token {
	symbols, distances := words(r.symbols), words(r.distances)
	var l []api.Token
	for {
		symbol := r.symbol(symbols)
		switch {
		case symbol == 256:
			return l
		case symbol < 256:
			l = append(l, api.Token{Byte: byte(symbol)})
		default:
			length := r.value(symbol, 3, 258, slowLength)
			l = append(l, api.Token{Length: length, Behind: r.value(r.symbol(distances), 1, 32768, slowDistance)})
		}
	}
}

// value that a symbol and its bits more tell: the one that would be written so.
func (r *slow) value(symbol, least, most int, written func(int) (int, int, int)) int {
	for n := least; n <= most; n++ {
		if s, more, width := written(n); s == symbol && more == 0 {
			return n + r.number(width)
		}
	}
	return 0
}
