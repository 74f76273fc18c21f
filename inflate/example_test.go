package inflate_test

import (
	"fmt"

	"layercake/inflate"
)

func Example() {
	text, used, err := inflate.Inflate("\x4b\x04\x00rest", 10)
	fmt.Printf("%q %d %v\n", text, used, err)
	text, err = inflate.Unzip("\x78\x9c\x4b\x4c\x4a\x06\x00\x02\x4d\x01\x27", 10)
	fmt.Printf("%q %v\n", text, err)
	text, err = inflate.Unzip("\x78\x9c\x4b\x4c\x4a\x06\x00\x02\x4d\x01\x28", 10)
	fmt.Printf("%q %v\n", text, err)
	// Output:
	// "a" 3 <nil>
	// "abc" <nil>
	// "" layercake: sum
}
