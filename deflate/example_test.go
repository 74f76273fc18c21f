package deflate_test

import (
	"fmt"

	"layercake/api"
	"layercake/deflate"
	"layercake/inflate"
)

func Example() {
	blocks, err := deflate.Stored("ab")
	fmt.Printf("% x, %v\n", blocks, err)
	block, err := deflate.Fixed([]api.Token{{Byte: 'a'}})
	fmt.Printf("% x, %v\n", block, err)
	zipped, err := deflate.Zip("abc")
	fmt.Printf("% x, %v\n", zipped, err)
	text, err := inflate.Unzip(zipped, 3)
	fmt.Println(text, err)
	// Output:
	// 01 02 00 fd ff 61 62, <nil>
	// 4b 04 00, <nil>
	// 78 9c 4b 4c 4a 06 00 02 4d 01 27, <nil>
	// abc <nil>
}
