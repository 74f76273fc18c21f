package tiles_test

import (
	"fmt"

	"layercake/api"
	"layercake/tiles"
)

func Example() {
	white, red := api.Pixel{R: 255, G: 255, B: 255, A: 255}, api.Pixel{R: 255, A: 255}
	page := api.Picture{Wide: 40, High: 20}
	for range 40 * 20 {
		page.P = append(page.P, white)
	}
	grid, err := tiles.Of(page)
	fmt.Println(grid.Plain(), err)
	filled, err := grid.Fill(api.Rect{X: 14, Y: 2, W: 4, H: 4}, red)
	fmt.Println(filled.Plain(), grid.Plain(), err)
	changed, err := tiles.Changed(grid, filled)
	fmt.Println(changed, err)
	packed := filled.Pack()
	again, err := tiles.Unpack(packed)
	corner, _ := again.At(14, 2)
	wide, high := again.Size()
	fmt.Println(corner, wide, high, err)
	// Output:
	// 6 <nil>
	// 4 6 <nil>
	// [{0 0 16 16} {16 0 16 16}] <nil>
	// {255 0 0 255} 40 20 <nil>
}
