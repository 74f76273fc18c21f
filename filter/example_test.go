package filter_test

import (
	"fmt"

	"layercake/filter"
)

func Example() {
	row, ahead := "\x05\x09\x01\xff", "\x01\x02\x03\x04"
	done, err := filter.Do(3, row, ahead, 1)
	fmt.Printf("% x, %v\n", done, err)
	undone, err := filter.Undo(3, done, ahead, 1)
	fmt.Printf("% x, %v\n", undone, err)
	kind, err := filter.Best(row, ahead, 1)
	fmt.Println(kind, err)
	rows, err := filter.Rows("\x05\x05\x05\x05\x05\x05", 3, 1)
	fmt.Printf("% x, %v\n", rows, err)
	text, err := filter.Back(rows, 3, 1)
	fmt.Printf("% x, %v\n", text, err)
	// Output:
	// 05 06 fb fd, <nil>
	// 05 09 01 ff, <nil>
	// 0 <nil>
	// 01 05 00 00 02 00 00 00, <nil>
	// 05 05 05 05 05 05, <nil>
}
