package raster_test

import (
	"fmt"

	"layercake/api"
	"layercake/pixel"
	"layercake/raster"
)

func Example() {
	white, red, half := api.Pixel{R: 255, G: 255, B: 255, A: 255}, api.Pixel{R: 255, A: 255}, api.Pixel{A: 128}
	show := func(p api.Picture, err error) api.Picture {
		for i, c := range p.P {
			fmt.Print(pixel.Text(c))
			if i%p.Wide == p.Wide-1 {
				fmt.Println()
			} else {
				fmt.Print(" ")
			}
		}
		fmt.Println(p.Wide, p.High, err)
		return p
	}
	page := show(raster.New(3, 2, white))
	page = show(raster.Fill(page, api.Rect{X: 1, Y: -1, W: 5, H: 2}, red))
	dark, err := raster.New(1, 2, half)
	page = show(raster.Stamp(page, dark, 2, 0, 0))
	show(raster.Turn(page, 1))
	show(raster.Half(page))
	corner, err := raster.At(page, 2, 1)
	fmt.Println(corner, err)
	// Output:
	// ffffffff ffffffff ffffffff
	// ffffffff ffffffff ffffffff
	// 3 2 <nil>
	// ffffffff ff0000ff ff0000ff
	// ffffffff ffffffff ffffffff
	// 3 2 <nil>
	// ffffffff ff0000ff 7f0000ff
	// ffffffff ffffffff 7f7f7fff
	// 3 2 <nil>
	// ffffffff ffffffff
	// ffffffff ff0000ff
	// 7f7f7fff 7f0000ff
	// 2 3 <nil>
	// ffbfbfff 7f4040ff
	// 2 1 <nil>
	// {127 127 127 255} <nil>
}
