package bits_test

import (
	"fmt"

	"layercake/bits"
)

func Example() {
	var w bits.Writer
	w.Put(5, 3)
	w.Turned(1, 2)
	w.Align()
	w.Put(0xCAFE, 16)
	fmt.Printf("%d %X\n", w.Len(), w.Text())
	r := bits.NewReader(w.Text())
	first, _ := r.Get(3)
	second, _ := r.Get(2)
	r.Align()
	third, err := r.Get(16)
	fmt.Printf("%d %d %X %v, %d left\n", first, second, third, err, r.Left())
	// Output:
	// 24 15FECA
	// 5 2 CAFE <nil>, 0 left
}
