package disk_test

import (
	"fmt"
	"strings"

	"layercake/disk"
)

func Example() {
	d, err := disk.New(2)
	if err != nil {
		fmt.Println(err)
		return
	}
	show := func(what string, err error) {
		first, _ := d.Read(0)
		second, _ := d.Read(1)
		fmt.Println(what, strings.Trim(first, "\x00"), strings.Trim(second, "\x00"), d.Waiting(), err)
	}
	show("write", d.Write(0, "a"))
	show("flush", d.Flush())
	show("write", d.Write(0, "b"))
	show("write", d.Write(1, "c"))
	show("fail", d.Fail(0))
	show("flush", d.Flush())
	c := d.Copy()
	d.Crash([]bool{false, true})
	show("crash", nil)
	show("flush", d.Flush())
	c.Crash(nil)
	s, err := c.Read(1)
	fmt.Println(strings.Trim(s, "\x00") == "", err)
	// Output:
	// write a  1 <nil>
	// flush a  0 <nil>
	// write b  1 <nil>
	// write b c 2 <nil>
	// fail b c 2 <nil>
	// flush b c 2 layercake: power
	// crash a c 0 <nil>
	// flush a c 0 <nil>
	// true <nil>
}
