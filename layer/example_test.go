package layer_test

import (
	"fmt"

	"layercake/api"
	"layercake/layer"
	"layercake/pixel"
	"layercake/raster"
)

func Example() {
	white, red, black := api.Pixel{R: 255, G: 255, B: 255, A: 255}, api.Pixel{R: 255, A: 255}, api.Pixel{A: 255}
	show := func(d layer.Doc, err error) layer.Doc {
		p, bad := layer.Flatten(d)
		for _, l := range d.L {
			fmt.Print(l.Name, " ")
		}
		for _, c := range p.P {
			fmt.Print(" ", pixel.Text(c))
		}
		fmt.Println("", err, bad)
		return d
	}
	page, _ := raster.New(3, 1, white)
	spot, _ := raster.New(1, 1, red)
	shade, _ := raster.New(2, 1, black)
	doc := layer.Doc{Wide: 3, High: 1}
	doc = show(layer.Add(doc, layer.Layer{Name: "page", Opacity: 255, P: page}))
	doc = show(layer.Add(doc, layer.Layer{Name: "spot", X: 1, Opacity: 255, Mode: 1, P: spot}))
	doc = show(layer.Add(doc, layer.Layer{Name: "shade", X: 1, Opacity: 128, P: shade}))
	seen, err := layer.Look(doc, 1, 0)
	fmt.Println(seen, err)
	show(layer.Move(doc, "spot", 2))
	show(layer.Remove(doc, "page"))
	show(layer.Merge(doc, "spot"))
	doc.L[2].Hidden = true
	show(doc, layer.Check(doc))
	// Output:
	// page  ffffffff ffffffff ffffffff <nil> <nil>
	// page spot  ffffffff ff0000ff ffffffff <nil> <nil>
	// page spot shade  ffffffff 7f0000ff 7f7f7fff <nil> <nil>
	// {127 0 0 255} <nil>
	// page shade spot  ffffffff 7f0000ff 7f7f7fff <nil> <nil>
	// spot shade  00000000 7f0000ff 00000080 <nil> <nil>
	// spot shade  ffffffff 7f0000ff 7f7f7fff <nil> <nil>
	// page spot shade  ffffffff ff0000ff ffffffff <nil> <nil>
}
