package colors_test

import (
	"fmt"

	"layercake/api"
	"layercake/colors"
)

func Example() {
	grey := func(n uint8) api.Pixel { return api.Pixel{R: n, G: n, B: n, A: 255} }
	p := api.Picture{Wide: 3, High: 2, P: []api.Pixel{grey(10), grey(40), grey(10), grey(41), grey(200), grey(10)}}
	uses, err := colors.Count(p)
	fmt.Println(uses, err)
	palette, numbers, err := colors.Exact(p, 4)
	fmt.Println(palette, numbers, err)
	_, _, err = colors.Exact(p, 3)
	fmt.Println(err)

	two := []api.Pixel{grey(0), grey(100)}
	numbers, err = colors.Map(p, two)
	fmt.Println(numbers, err)
	far, err := colors.Far(p, two)
	fmt.Println(far, err)
	better, err := colors.Better(p, two)
	fmt.Println(better, err)
	far, err = colors.Far(p, better)
	fmt.Println(far, err)

	few, err := colors.Reduce(p, 3)
	fmt.Println(few, err)
	far, err = colors.Far(p, few)
	fmt.Println(far, err)
	// Output:
	// [{{10 10 10 255} 3} {{40 40 40 255} 1} {{41 41 41 255} 1} {{200 200 200 255} 1}] <nil>
	// [{10 10 10 255} {40 40 40 255} {41 41 41 255} {200 200 200 255}] [0 1 0 2 3 0] <nil>
	// layercake: colors
	// [0 0 0 0 1 0] <nil>
	// 40743 <nil>
	// [{22 22 22 255} {200 200 200 255}] <nil>
	// 3351 <nil>
	// [{10 10 10 255} {41 41 41 255} {200 200 200 255}] <nil>
	// 3 <nil>
}
