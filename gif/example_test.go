package gif_test

import (
	"fmt"

	"layercake/api"
	"layercake/gif"
)

func Example() {
	red, blue := api.Pixel{R: 255, A: 255}, api.Pixel{B: 255, A: 255}
	file, err := gif.Write([]gif.Frame{
		{P: api.Picture{Wide: 2, High: 1, P: []api.Pixel{red, {}}}, Delay: 50},
		{P: api.Picture{Wide: 2, High: 1, P: []api.Pixel{blue, red}}, Delay: 25},
	}, 3)
	fmt.Println(len(file), err)
	frames, loops, err := gif.Read(file)
	fmt.Println(frames, loops, err)
	// Output:
	// 91 <nil>
	// [{{2 1 [{255 0 0 255} {0 0 0 0}]} 50} {{2 1 [{0 0 255 255} {255 0 0 255}]} 25}] 3 <nil>
}
