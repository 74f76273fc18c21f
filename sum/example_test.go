package sum_test

import (
	"fmt"

	"layercake/sum"
)

func Example() {
	first, second := "1234", "56789"
	c, err := sum.JoinCRC(sum.CRC(first), sum.CRC(second), len(second))
	fmt.Printf("%08X %v\n", c, err)
	fmt.Printf("%08X\n", sum.MoreCRC(sum.CRC(first), second))
	fmt.Printf("%08X\n", sum.Adler("abc"))
	// Output:
	// CBF43926 <nil>
	// CBF43926
	// 024D0127
}
