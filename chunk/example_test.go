package chunk_test

import (
	"fmt"

	"layercake/chunk"
)

func Example() {
	file, err := chunk.Write([]chunk.Chunk{{Kind: "teXt", Data: "ab"}, {Kind: "IEND"}})
	fmt.Printf("%q, %v\n", file, err)
	list, err := chunk.Read(file)
	fmt.Printf("%q, %v\n", list, err)
	// Output:
	// "\x89PNG\r\n\x1a\n\x00\x00\x00\x02teXtab\xf2\xb8\xab\x1a\x00\x00\x00\x00IEND\xaeB`\x82", <nil>
	// [{"teXt" "ab"} {"IEND" ""}], <nil>
}
