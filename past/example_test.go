package past_test

import (
	"fmt"

	"layercake/past"
)

func Example() {
	p, err := past.New("a", 2)
	if err != nil {
		fmt.Println(err)
		return
	}
	show := func(what string, ok bool) {
		back, forth := p.Kept()
		fmt.Println(what, ok, p.Now(), back, forth)
	}
	for _, x := range []string{"b", "c", "d"} {
		p.Do(x)
		show("do", true)
	}
	show("undo", p.Undo())
	show("undo", p.Undo())
	show("undo", p.Undo())
	show("redo", p.Redo())
	p.Do("e")
	show("do", true)
	show("redo", p.Redo())
	_, err = past.New("a", 21)
	fmt.Println(err)
	// Output:
	// do true b 1 0
	// do true c 2 0
	// do true d 2 0
	// undo true c 1 1
	// undo true b 0 2
	// undo false b 0 2
	// redo true c 1 1
	// do true e 2 0
	// redo false e 2 0
	// layercake: bound
}
