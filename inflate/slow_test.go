package inflate

import (
	"slices"
	"strconv"
	"strings"

	"layercake/api"
)

// A second reader of packed texts, as plain and slow as can be: bits are characters, words are texts in a map. The tests hold Inflate against it.

type slow struct {
	rest string // characters 0 and 1
	gone int
	out  []byte
	most int
}

// slowInflate is Inflate of arguments that are in bounds.
func slowInflate(s string, most int) (string, int, error) {
	var b strings.Builder
	for i := range len(s) {
		for k := range 8 {
			b.WriteByte('0' + s[i]>>k&1)
		}
	}
	r := &slow{rest: b.String(), most: most}
	if err := r.blocks(); err != nil {
		return "", 0, err
	}
	return string(r.out), (r.gone + 7) / 8, nil
}

func (r *slow) take(n int) (string, bool) {
	if n > len(r.rest) {
		return "", false
	}
	s := r.rest[:n]
	r.rest = r.rest[n:]
	r.gone += n
	return s, true
}

// number of n bits, -1 if they are not there.
func (r *slow) number(n int) int {
	s, ok := r.take(n)
	if !ok {
		return -1
	}
	l := []byte(s)
	slices.Reverse(l)
	v, _ := strconv.ParseInt("0"+string(l), 2, 64)
	return int(v)
}

func (r *slow) symbol(words map[string]int) int {
	for n := 1; n <= 15 && n <= len(r.rest); n++ {
		if symbol, ok := words[r.rest[:n]]; ok {
			r.take(n)
			return symbol
		}
	}
	return -1
}

// slowWords by counting up, length by length; nil if the lengths are not right.
func slowWords(lengths []int) map[string]int {
	words := map[string]int{}
	part := 0.0
	next := 0
	for n := 1; n <= 15; n++ {
		next *= 2
		for symbol, length := range lengths {
			if length == n {
				s := strconv.FormatInt(int64(next), 2)
				words[strings.Repeat("0", max(n-len(s), 0))+s] = symbol
				part += 1 / float64(int(1)<<n)
				next++
			}
		}
		if part > 1 {
			return nil
		}
	}
	if len(words) == 0 || part == 1 || len(words) == 1 && part == 0.5 {
		return words
	}
	return nil
}

func (r *slow) blocks() error {
	for {
		last, kind := r.number(1), r.number(2)
		err := api.ErrText
		switch kind {
		case 0:
			err = r.stored()
		case 1:
			var symbols []int
			for _, l := range [][2]int{{144, 8}, {112, 9}, {24, 7}, {8, 8}} {
				symbols = append(symbols, slices.Repeat([]int{l[1]}, l[0])...)
			}
			err = r.tokens(slowWords(symbols), slowWords(slices.Repeat([]int{5}, 32)))
		case 2:
			err = r.dynamic()
		}
		if err != nil || last == 1 {
			return err
		}
	}
}

func (r *slow) stored() error {
	for r.gone%8 != 0 {
		r.take(1)
	}
	n, turned := r.number(16), r.number(16)
	if n < 0 || turned < 0 || n+turned != 65535 || 8*n > len(r.rest) {
		return api.ErrText
	}
	if n+len(r.out) > r.most {
		return api.ErrBound
	}
	for range n {
		r.out = append(r.out, byte(r.number(8)))
	}
	return nil
}

func (r *slow) dynamic() error {
	symbols, distances, count := r.number(5)+257, r.number(5)+1, r.number(4)+4
	if symbols > 286 || distances > 30 {
		return api.ErrText
	}
	own := make([]int, 19)
	for _, symbol := range strings.Fields("16 17 18 0 8 7 9 6 10 5 11 4 12 3 13 2 14 1 15")[:count] {
		i, _ := strconv.Atoi(symbol)
		if own[i] = r.number(3); own[i] < 0 {
			return api.ErrText
		}
	}
	words := slowWords(own)
	if words == nil {
		return api.ErrText
	}
	var row []int
	for len(row) < symbols+distances {
		symbol, value, least, more := r.symbol(words), 0, 0, 0
		switch {
		case symbol < 0 || symbol == 16 && len(row) == 0:
			return api.ErrText
		case symbol < 16:
			value, least = symbol, 1
		case symbol == 16:
			value, least, more = row[len(row)-1], 3, r.number(2)
		case symbol == 17:
			least, more = 3, r.number(3)
		default:
			least, more = 11, r.number(7)
		}
		if more < 0 {
			return api.ErrText
		}
		row = append(row, slices.Repeat([]int{value}, least+more)...)
	}
	a, b := slowWords(row[:symbols]), slowWords(row[symbols:])
	if len(row) > symbols+distances || row[256] == 0 || a == nil || b == nil {
		return api.ErrText
	}
	return r.tokens(a, b)
}

func (r *slow) tokens(symbols, distances map[string]int) error {
	for {
		symbol := r.symbol(symbols)
		switch {
		case symbol < 0 || symbol > 285:
			return api.ErrText
		case symbol == 256:
			return nil
		case symbol < 256:
			if len(r.out) == r.most {
				return api.ErrBound
			}
			r.out = append(r.out, byte(symbol))
		default:
			if err := r.match(symbol, distances); err != nil {
				return err
			}
		}
	}
}

func (r *slow) match(symbol int, distances map[string]int) error {
	from, more := slowLength(symbol)
	rest := r.number(more)
	d := r.symbol(distances)
	if rest < 0 || d < 0 || d > 29 {
		return api.ErrText
	}
	far, farMore := slowDistance(d)
	farRest := r.number(farMore)
	if farRest < 0 || far+farRest > len(r.out) {
		return api.ErrText
	}
	if len(r.out)+from+rest > r.most {
		return api.ErrBound
	}
	for range from + rest {
		r.out = append(r.out, r.out[len(r.out)-far-farRest])
	}
	return nil
}

// slowLength and slowDistance count the rows up from how many bits each symbol has.
func slowLength(symbol int) (from, more int) {
	if symbol == 285 {
		return 258, 0
	}
	from = 3
	for s := 257; ; s++ {
		more = 0
		if s >= 265 {
			more = (s - 261) / 4
		}
		if s == symbol {
			return from, more
		}
		from += 1 << more
	}
}

func slowDistance(symbol int) (from, more int) {
	from = 1
	for s := 0; ; s++ {
		more = 0
		if s >= 4 {
			more = s/2 - 1
		}
		if s == symbol {
			return from, more
		}
		from += 1 << more
	}
}
