package pixel_test

import (
	"fmt"

	"layercake/api"
	"layercake/pixel"
)

func Example() {
	white, black := api.Pixel{R: 255, G: 255, B: 255, A: 255}, api.Pixel{A: 255}
	half, err := pixel.Fade(white, 128)
	fmt.Println(half, err)
	grey, err := pixel.Over(0, half, black)
	fmt.Println(grey, err)
	fmt.Println(pixel.Mix([]api.Pixel{white, black, {}}))
	fmt.Println(pixel.Text(api.Pixel{R: 255, A: 128}))
	red, err := pixel.Read("ff000080")
	fmt.Println(red, err)
	// Output:
	// {255 255 255 128} <nil>
	// {128 128 128 255} <nil>
	// {128 128 128 170}
	// ff000080
	// {255 0 0 128} <nil>
}
