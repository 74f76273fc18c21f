package lzw_test

import (
	"fmt"

	"layercake/lzw"
)

func Example() {
	packed, err := lzw.Pack("\x01\x01\x01\x01\x01\x02\x02\x02", 2)
	fmt.Printf("% x, %v\n", packed, err)
	blocks := lzw.Blocks(packed)
	fmt.Printf("% x\n", blocks)
	joined, used, err := lzw.Join(blocks + "rest")
	fmt.Printf("% x, %d, %v\n", joined, used, err)
	text, used, err := lzw.Unpack(joined, 2, 10)
	fmt.Printf("% x, %d, %v\n", text, used, err)
	// Output:
	// 8c 2d 59, <nil>
	// 03 8c 2d 59 00
	// 8c 2d 59, 5, <nil>
	// 01 01 01 01 01 02 02 02, 3, <nil>
}
