package film_test

import (
	"fmt"

	"layercake/api"
	"layercake/chunk"
	"layercake/film"
	"layercake/gif"
	"layercake/png"
)

func Example() {
	red, half := api.Pixel{R: 255, A: 255}, api.Pixel{B: 255, A: 128}
	file, err := film.Write([]gif.Frame{
		{P: api.Picture{Wide: 2, High: 1, P: []api.Pixel{red, half}}, Delay: 50},
		{P: api.Picture{Wide: 2, High: 1, P: []api.Pixel{half, red}}, Delay: 25},
	}, 3)
	fmt.Println(len(file) > 0, err)
	list, err := chunk.Read(file)
	for _, c := range list {
		fmt.Print(c.Kind, " ")
	}
	fmt.Println(err)
	frames, loops, err := film.Read(file)
	fmt.Println(frames, loops, err)
	picture, err := png.Read(file)
	fmt.Println(picture, err)
	// Output:
	// true <nil>
	// IHDR acTL fcTL IDAT fcTL fdAT IEND <nil>
	// [{{2 1 [{255 0 0 255} {0 0 255 128}]} 50} {{2 1 [{0 0 255 128} {255 0 0 255}]} 25}] 3 <nil>
	// {2 1 [{255 0 0 255} {0 0 255 128}]} <nil>
}
