package store_test

import (
	"fmt"

	"layercake/disk"
	"layercake/store"
)

func Example() {
	d, err := disk.New(30)
	if err != nil {
		fmt.Println(err)
		return
	}
	s, err := store.Format(d)
	fmt.Println("format", err)
	fmt.Println("put", s.Put("page", "white"), s.Put("spot", "red"))
	fmt.Println("sync", s.Sync())
	fmt.Println("drop", s.Drop("page"), s.Names())
	fmt.Println("fail", d.Fail(1))
	fmt.Println("sync", s.Sync())
	fmt.Println("put", s.Put("spot", "blue"))
	d.Crash([]bool{true})
	s, err = store.Open(d)
	fmt.Println("open", err, s.Names())
	text, err := s.Get("page")
	fmt.Println("get", text, err)
	// Output:
	// format <nil>
	// put <nil> <nil>
	// sync <nil>
	// drop <nil> [spot]
	// fail <nil>
	// sync layercake: power
	// put layercake: power
	// open <nil> [page spot]
	// get white <nil>
}
