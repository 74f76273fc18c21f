package block

import (
	"math"
	"slices"
	"testing"
)

// The rows of P41 follow from how many bits each symbol has: each begins where the one ahead of it ends.
func TestRowsHaveNoGaps(t *testing.T) {
	next := 3
	for symbol := 257; symbol <= 284; symbol++ {
		from, width, ok := Length(symbol)
		if want := max(0, (symbol-261)/4); from != next || width != want || !ok {
			t.Errorf("symbol %d: from %d, %d bits, %v, want from %d, %d bits", symbol, from, width, ok, next, want)
		}
		next += 1 << width
	}
	if from, width, ok := Length(285); from != 258 || width != 0 || !ok || next != 259 {
		t.Errorf("symbol 285: from %d, %d bits, %v", from, width, ok)
	}
	next = 1
	for symbol := range 30 {
		from, width, ok := Distance(symbol)
		if want := max(0, symbol/2-1); from != next || width != want || !ok {
			t.Errorf("distance %d: from %d, %d bits, %v, want from %d, %d bits", symbol, from, width, ok, next, want)
		}
		next += 1 << width
	}
	if next != 32769 {
		t.Errorf("distances end ahead of %d", next)
	}
}

func TestSymbolsThatTellNone(t *testing.T) {
	for _, symbol := range []int{math.MinInt, -1, 0, 255, 256, 286, 287, math.MaxInt} {
		if from, width, ok := Length(symbol); from != 0 || width != 0 || ok {
			t.Errorf("symbol %d: %d, %d, %v", symbol, from, width, ok)
		}
	}
	for _, symbol := range []int{math.MinInt, -1, 30, 31, math.MaxInt} {
		if from, width, ok := Distance(symbol); from != 0 || width != 0 || ok {
			t.Errorf("distance %d: %d, %d, %v", symbol, from, width, ok)
		}
	}
}

func TestSymbolsOfAllLengthsAndDistances(t *testing.T) {
	for n := 3; n <= 258; n++ {
		symbol := SymbolOfLength(n)
		if from, width, ok := Length(symbol); n < from || n >= from+1<<width || !ok || (n == 258) != (symbol == 285) {
			t.Errorf("length %d: symbol %d", n, symbol)
		}
	}
	for n := 1; n <= 32768; n++ {
		symbol := SymbolOfDistance(n)
		if from, width, ok := Distance(symbol); n < from || n >= from+1<<width || !ok {
			t.Errorf("distance %d: symbol %d", n, symbol)
		}
	}
}

func TestFixedLengths(t *testing.T) {
	want := slices.Concat(slices.Repeat([]int{8}, 144), slices.Repeat([]int{9}, 112), slices.Repeat([]int{7}, 24), slices.Repeat([]int{8}, 8))
	if got := FixedSymbols(); !slices.Equal(got, want) {
		t.Errorf("symbols: %v", got)
	}
	if got := FixedDistances(); !slices.Equal(got, slices.Repeat([]int{5}, 32)) {
		t.Errorf("distances: %v", got)
	}
}

func TestCodeOfLengths(t *testing.T) {
	order := OfLengths()
	if want := [...]int{16, 17, 18, 0, 8, 7, 9, 6, 10, 5, 11, 4, 12, 3, 13, 2, 14, 1, 15}; order != want {
		t.Errorf("order: %v", order)
	}
	for symbol := range 19 {
		want := [2]int{1, 0}
		switch symbol {
		case 16:
			want = [2]int{3, 2}
		case 17:
			want = [2]int{3, 3}
		case 18:
			want = [2]int{11, 7}
		}
		if least, width := Times(symbol); least != want[0] || width != want[1] {
			t.Errorf("symbol %d: %d times, %d bits", symbol, least, width)
		}
	}
}
