package huff_test

import (
	"fmt"

	"layercake/bits"
	"layercake/huff"
)

func Example() {
	counts := []int{3, 9, 1, 1}
	lengths, _ := huff.Lengths(counts, 15)
	words, _ := huff.Codes(lengths)
	cost, _ := huff.Cost(counts, lengths)
	fmt.Println(lengths, words, cost)

	var w bits.Writer
	for _, symbol := range []int{0, 2, 1} {
		w.Turned(words[symbol], lengths[symbol])
	}
	tree, _ := huff.Read(lengths)
	r := bits.NewReader(w.Text())
	for range 3 {
		symbol, err := tree.Next(r)
		fmt.Println(symbol, err)
	}
	// Output:
	// [2 1 3 3] [2 0 6 7] 21
	// 0 <nil>
	// 2 <nil>
	// 1 <nil>
}
