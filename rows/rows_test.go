package rows

import (
	"bytes"
	"compress/zlib"
	"io"
	"slices"
	"strings"
	"testing"

	"layercake/api"
	"layercake/filter"
)

// mixer makes mixed numbers, the same ones at each run.
type mixer uint64

func (m *mixer) below(n int) int {
	*m = *m*6364136223846793005 + 1442695040888963407
	return int(*m>>33) % n
}

func (m *mixer) picture(wide, high, most int) api.Picture {
	p := api.Picture{Wide: wide, High: high}
	for range wide * high {
		p.P = append(p.P, api.Pixel{R: uint8(m.below(most)), G: uint8(m.below(most)), B: uint8(m.below(most)), A: uint8(m.below(most))})
	}
	return p
}

func zipped(s string) string {
	var b bytes.Buffer
	w := zlib.NewWriter(&b)
	io.WriteString(w, s)
	w.Close()
	return b.String()
}

func unzipped(s string) string {
	r, err := zlib.NewReader(strings.NewReader(s))
	if err != nil {
		return err.Error()
	}
	b, err := io.ReadAll(r)
	if err != nil {
		return err.Error()
	}
	return string(b)
}

// P100, P101

func TestByHand(t *testing.T) {
	p := api.Picture{Wide: 2, High: 2, P: []api.Pixel{{R: 1, G: 2, B: 3, A: 4}, {R: 1, G: 2, B: 3, A: 5}, {R: 1, G: 2, B: 3, A: 4}, {R: 1, G: 2, B: 3, A: 4}}}
	s, err := Pack(p)
	if got := unzipped(s); got != "\x01\x01\x02\x03\x04\x00\x00\x00\x01"+"\x02\x00\x00\x00\x00\x00\x00\x00\xff" || err != nil {
		t.Errorf("%q, %v", got, err)
	}
	l, err := Pixels(zipped("\x00abcdefgh\x03\x00\x00\x00\x00\x00\x00\x00\x00"), 2, 2)
	if !slices.Equal(l, []api.Pixel{{R: 'a', G: 'b', B: 'c', A: 'd'}, {R: 'e', G: 'f', B: 'g', A: 'h'}, {R: 48, G: 49, B: 49, A: 50}, {R: 74, G: 75, B: 76, A: 77}}) || err != nil {
		t.Errorf("%v, %v", l, err)
	}
}

func TestPackedIsUnpacked(t *testing.T) {
	m := mixer(1)
	for _, c := range [][2]int{{1, 1}, {1, 256}, {256, 1}, {3, 5}, {7, 4}, {30, 30}, {256, 256}} {
		for _, most := range []int{1, 2, 10, 256} {
			p := m.picture(c[0], c[1], most)
			s, err := Pack(p)
			if err != nil {
				t.Fatal(c, err)
			}
			if l, err := Pixels(s, p.Wide, p.High); !slices.Equal(l, p.P) || err != nil {
				t.Errorf("%v: %d pixels, %v", c, len(l), err)
			}
			if b, err := Bytes(s, 4*p.Wide, p.High, 4); len(b) != 4*len(p.P) || err != nil {
				t.Errorf("%v: %d bytes, %v", c, len(b), err)
			}
		}
	}
}

func TestBytesOfAnyStep(t *testing.T) {
	m := mixer(2)
	for step := 1; step <= 8; step++ {
		for wide := 1; wide <= 20; wide++ {
			b := make([]byte, wide*m.below(9))
			for i := range b {
				b[i] = byte(m.below(256))
			}
			s, err := filter.Rows(string(b), wide, step)
			if err != nil {
				t.Fatal(err)
			}
			if got, err := Bytes(zipped(s), wide, len(b)/wide, step); got != string(b) || err != nil {
				t.Errorf("%d, %d: %q, %v", wide, step, got, err)
			}
		}
	}
}

func TestNotUnpacked(t *testing.T) {
	rows := strings.Repeat("\x00abcdefgh", 3)
	good := zipped(rows)
	last := len(good) - 1
	for name, c := range map[string]struct {
		packed string
		err    error
	}{
		"none":        {"", api.ErrText},
		"cut":         {good[:last], api.ErrText},
		"more behind": {good + "\x00", api.ErrText},
		"sum":         {good[:last] + string([]byte{good[last] ^ 1}), api.ErrSum},
		"too many":    {zipped(rows + "\x00"), api.ErrBound},
		"too few":     {zipped(rows[1:]), api.ErrText},
		"a row fewer": {zipped(rows[9:]), api.ErrText},
		"first kind":  {zipped("\x05" + rows[1:]), api.ErrText},
		"last kind":   {zipped(rows[:18] + "\xff" + rows[19:]), api.ErrText},
	} {
		if l, err := Pixels(c.packed, 2, 3); l != nil || err != c.err {
			t.Errorf("%s: %v, %#v", name, l, err)
		}
		if b, err := Bytes(c.packed, 8, 3, 4); b != "" || err != c.err {
			t.Errorf("%s: %q, %#v", name, b, err)
		}
	}
}

// P1: sizes that are none have an error, too.
func TestSizesThatAreNone(t *testing.T) {
	for _, n := range []int{-1 << 63, -70000, -2, -1, 0, 1 << 20, 1 << 40, 1<<63 - 1} {
		for _, s := range []string{"", zipped(""), zipped("abc"), zipped("\x00abcd")} {
			for _, k := range []int{n, 1} {
				if l, err := Pixels(s, n, k); l != nil || err == nil {
					t.Errorf("%d: %v, %v", n, l, err)
				}
				if n != 0 {
					if l, err := Pixels(s, k, n); l != nil || err == nil {
						t.Errorf("%d: %v, %v", n, l, err)
					}
				}
			}
		}
	}
}
