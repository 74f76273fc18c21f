package png_test

import (
	"fmt"

	"layercake/api"
	"layercake/chunk"
	"layercake/png"
)

func Example() {
	red, half := api.Pixel{R: 255, A: 255}, api.Pixel{R: 255, A: 128}
	file, err := png.Write(api.Picture{Wide: 3, High: 1, P: []api.Pixel{red, half, red}})
	fmt.Println(len(file) > 0, err)
	list, err := chunk.Read(file)
	for _, c := range list {
		if c.Kind != "IDAT" { // how the rows are packed is free
			fmt.Printf("%s: %q\n", c.Kind, c.Data)
		}
	}
	picture, err := png.Read(file)
	fmt.Println(picture, err)
	// Output:
	// true <nil>
	// IHDR: "\x00\x00\x00\x03\x00\x00\x00\x01\x01\x03\x00\x00\x00"
	// PLTE: "\xff\x00\x00\xff\x00\x00"
	// tRNS: "\xff\x80"
	// IEND: ""
	// {3 1 [{255 0 0 255} {255 0 0 128} {255 0 0 255}]} <nil>
}
