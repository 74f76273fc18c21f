package raster

import (
	"fmt"
	"math"
	"slices"
	"strings"
	"testing"

	"layercake/api"
)

// mixer makes mixed numbers, the same ones at each run.
type mixer uint64

func (m *mixer) below(n int) int {
	*m = *m*6364136223846793005 + 1442695040888963407
	return int(*m>>33) % n
}

// between two numbers, both of them among it.
func (m *mixer) between(from, to int) int { return from + m.below(to-from+1) }

// cover: often none of it, or all.
func (m *mixer) cover() uint8 { return [...]uint8{0, 255, 1, uint8(m.below(256))}[m.below(4)] }

func (m *mixer) pixel() api.Pixel {
	return api.Pixel{R: uint8(m.below(256)), G: uint8(m.below(256)), B: uint8(m.below(256)), A: m.cover()}
}

func (m *mixer) picture(wide, high int) api.Picture {
	p := api.Picture{Wide: wide, High: high}
	for range wide * high {
		p.P = append(p.P, m.pixel())
	}
	return p
}

// small: up to so wide and high.
func (m *mixer) small(side int) api.Picture {
	return m.picture(m.between(1, side), m.between(1, side))
}

// few unlike pixels.
func (m *mixer) few(wide, high, many int) api.Picture {
	p := api.Picture{Wide: wide, High: high}
	for range wide * high {
		p.P = append(p.P, letter(byte('a'+m.below(many))))
	}
	return p
}

func letter(b byte) api.Pixel { return api.Pixel{R: b, A: 255} }

// draw a picture by letters, its rows parted by strokes.
func draw(s string) api.Picture {
	rows := strings.Split(s, "/")
	p := api.Picture{Wide: len(rows[0]), High: len(rows)}
	for _, row := range rows {
		for i := range len(row) {
			p.P = append(p.P, letter(row[i]))
		}
	}
	return p
}

func same(a, b api.Picture) bool {
	return a.Wide == b.Wide && a.High == b.High && slices.Equal(a.P, b.P)
}

func short(p api.Picture) string {
	if len(p.P) > 40 {
		return fmt.Sprintf("%d by %d, %d pixels", p.Wide, p.High, len(p.P))
	}
	return fmt.Sprint(p)
}

// told by one call.
type told struct {
	p   api.Picture
	err error
}

func call(p api.Picture, err error) told { return told{p, err} }

func gives(t *testing.T, name any, got told, want api.Picture) {
	t.Helper()
	if got.err != nil || !same(got.p, want) {
		t.Errorf("%v: %s, %v, want %s", name, short(got.p), got.err, short(want))
	}
}

// fails: with just that error, bare, and no picture.
func fails(t *testing.T, name any, got told, want error) {
	t.Helper()
	if got.err != want || got.p.Wide != 0 || got.p.High != 0 || len(got.p.P) != 0 {
		t.Errorf("%v: %s, %#v, want the bare %v", name, short(got.p), got.err, want)
	}
}

// beyond the numbers that a place may have.
func beyond() []int {
	return []int{10001, -10001, 10002, 1 << 20, 1 << 31, -1 << 31, 1 << 32, 1<<32 + 1, -1 << 32, math.MaxInt, math.MinInt, math.MaxInt - 1, math.MinInt + 1}
}

// noSides: numbers that are none.
func noSides() []int {
	return []int{0, -1, 257, 258, 1 << 16, 1 << 32, 1<<32 + 1, -1 << 32, math.MaxInt, math.MinInt}
}

// Not right

func notRight() []api.Picture {
	l := []api.Picture{{}, {Wide: 1, High: 1}, {P: []api.Pixel{{}}}, {Wide: 1 << 32, High: 1 << 32}, {Wide: math.MinInt, High: 2}, {Wide: -1, High: -1, P: make([]api.Pixel, 1)}}
	for _, c := range [][3]int{{2, 2, 3}, {2, 2, 5}, {257, 1, 257}, {1, 257, 257}, {0, 4, 0}, {4, 0, 0}, {-2, 2, 4}, {2, -2, 4}, {256, 256, 65535}, {256, 256, 65537}, {math.MaxInt, math.MaxInt, 1}} {
		l = append(l, api.Picture{Wide: c[0], High: c[1], P: make([]api.Pixel, c[2])})
	}
	return l
}

// calls of all that take a picture: with what is right beside it, and with what is not.
func calls(p api.Picture) map[string]told {
	good := draw("ab/cd")
	pixelOf := func(c api.Pixel, err error) told {
		return told{api.Picture{P: slices.DeleteFunc([]api.Pixel{c}, isZero)}, err}
	}
	return map[string]told{
		"At":              pixelOf(At(p, 0, 0)),
		"At none":         pixelOf(At(p, -1, 9999)),
		"Fill":            call(Fill(p, api.Rect{W: 1, H: 1}, letter('x'))),
		"Fill beyond":     call(Fill(p, api.Rect{X: 10001, W: -1}, letter('x'))),
		"Crop":            call(Crop(p, api.Rect{W: 1, H: 1})),
		"Crop beyond":     call(Crop(p, api.Rect{X: -1})),
		"Stamp on":        call(Stamp(p, good, 0, 0, 0)),
		"Stamp on beyond": call(Stamp(p, good, 10001, 0, 9)),
		"Stamp":           call(Stamp(good, p, 0, 0, 0)),
		"Stamp beyond":    call(Stamp(good, p, 0, math.MinInt, -1)),
		"Stamp both":      call(Stamp(p, p, 0, 0, 0)),
		"Flip":            call(Flip(p, false)),
		"Flip down":       call(Flip(p, true)),
		"Turn":            call(Turn(p, 1)),
		"Turn none":       call(Turn(p, 0)),
		"Scale":           call(Scale(p, 1, 1)),
		"Scale beyond":    call(Scale(p, 0, 257)),
		"Half":            call(Half(p)),
		"Line":            call(Line(p, 0, 0, 1, 1, letter('x'))),
		"Line beyond":     call(Line(p, 0, 0, 1, 10001, letter('x'))),
		"Flood":           call(Flood(p, 0, 0, letter('x'))),
		"Flood none":      call(Flood(p, -1, 0, letter('x'))),
	}
}

func isZero(c api.Pixel) bool { return c == api.Pixel{} }

func TestNotRight(t *testing.T) {
	for i, p := range notRight() {
		for name, got := range calls(p) {
			fails(t, fmt.Sprint(name, " of ", i), got, api.ErrShape)
		}
	}
}

// P120

func TestNew(t *testing.T) {
	for _, c := range [][2]int{{1, 1}, {1, 256}, {256, 1}, {256, 256}, {255, 2}, {3, 5}} {
		for _, x := range []api.Pixel{{}, {R: 1, G: 2, B: 3, A: 4}, {R: 9}} {
			gives(t, c, call(New(c[0], c[1], x)), api.Picture{Wide: c[0], High: c[1], P: slices.Repeat([]api.Pixel{x}, c[0]*c[1])})
		}
	}
	for _, n := range noSides() {
		fails(t, n, call(New(n, 1, letter('x'))), api.ErrBound)
		fails(t, n, call(New(1, n, letter('x'))), api.ErrBound)
		fails(t, n, call(New(n, n, letter('x'))), api.ErrBound)
	}
}

func TestAt(t *testing.T) {
	m := mixer(1)
	for _, c := range [][2]int{{1, 1}, {3, 2}, {2, 3}, {256, 1}, {1, 256}, {256, 256}} {
		p := m.picture(c[0], c[1])
		for y, row := range rowsOf(p) {
			for x, want := range row {
				if got, err := At(p, x, y); got != want || err != nil {
					t.Fatalf("At(%v, %d, %d): %v, %v, want %v", c, x, y, got, err, want)
				}
			}
		}
		for _, x := range append(beyond(), -1, c[0], c[0]+1) {
			noneAt(t, p, x, 0)
			noneAt(t, p, x, c[1]-1)
		}
		for _, y := range append(beyond(), -1, c[1], c[1]+1) {
			noneAt(t, p, 0, y)
			noneAt(t, p, c[0]-1, y)
		}
	}
	// Neither a row further on, nor one back.
	noneAt(t, draw("abc/def"), 3, 0)
	noneAt(t, draw("abc/def"), -1, 1)
	noneAt(t, draw("abc/def"), 4, -1)
}

func noneAt(t *testing.T, p api.Picture, x, y int) {
	t.Helper()
	if got, err := At(p, x, y); got != (api.Pixel{}) || err != api.ErrBound {
		t.Errorf("At(%d by %d, %d, %d): %v, %#v", p.Wide, p.High, x, y, got, err)
	}
}

// P121

func TestFillByHand(t *testing.T) {
	p := draw("abc/def")
	for r, want := range map[api.Rect]string{
		{X: 0, Y: 0, W: 3, H: 2}:                   "xxx/xxx",
		{X: 1, Y: -1, W: 5, H: 2}:                  "axx/def",
		{X: 0, Y: 0, W: 1, H: 1}:                   "xbc/def",
		{X: 2, Y: 1, W: 1, H: 1}:                   "abc/dex",
		{X: 2, Y: 1, W: 9, H: 9}:                   "abc/dex",
		{X: -2, Y: -1, W: 3, H: 2}:                 "xbc/def",
		{X: -2, Y: 0, W: 2, H: 2}:                  "abc/def",
		{X: 0, Y: -2, W: 3, H: 2}:                  "abc/def",
		{X: 3, Y: 0, W: 2, H: 2}:                   "abc/def",
		{X: 0, Y: 2, W: 2, H: 2}:                   "abc/def",
		{X: 9, Y: 9}:                               "abc/def",
		{X: 1, Y: 1, W: 0, H: 1}:                   "abc/def",
		{X: 1, Y: 1, W: 1, H: 0}:                   "abc/def",
		{}:                                         "abc/def",
		{X: 1, Y: 0, W: 1, H: 10000}:               "axc/dxf",
		{X: 0, Y: 1, W: 10000, H: 1}:               "abc/xxx",
		{X: -10000, Y: -10000, W: 10000, H: 10000}: "abc/def",
		{X: -9999, Y: -9999, W: 10000, H: 10000}:   "xbc/def",
		{X: 10000, Y: 10000, W: 10000, H: 10000}:   "abc/def",
		{X: -9998, Y: -9999, W: 10000, H: 10000}:   "xxc/def",
		{X: -10000, Y: 0, W: 10000, H: 10000}:      "abc/def",
		{X: -4096, Y: -4096, W: 9999, H: 9000}:     "xxx/xxx",
	} {
		gives(t, r, call(Fill(p, r, letter('x'))), draw(want))
		if got := slowFill(p, r, letter('x')); !same(got, draw(want)) {
			t.Errorf("the slow one: %v: %s", r, short(got))
		}
	}
	// They become c, and are not covered by it.
	gives(t, "clear", call(Fill(p, api.Rect{W: 3, H: 1}, api.Pixel{R: 7})), api.Picture{Wide: 3, High: 2, P: append(slices.Repeat([]api.Pixel{{R: 7}}, 3), p.P[3:]...)})
}

func TestFillIsAsTold(t *testing.T) {
	m := mixer(2)
	for range 1500 {
		p, c := m.small(9), m.pixel()
		r := api.Rect{X: m.between(-6, 11), Y: m.between(-6, 11), W: m.between(0, 12), H: m.between(0, 12)}
		gives(t, r, call(Fill(p, r, c)), slowFill(p, r, c))
	}
}

func TestFillBeyond(t *testing.T) {
	p := draw("abc/def")
	for _, n := range beyond() {
		for _, r := range []api.Rect{{X: n, W: 1, H: 1}, {Y: n, W: 1, H: 1}, {W: n, H: 1}, {W: 1, H: n}, {X: n, Y: n, W: n, H: n}} {
			fails(t, r, call(Fill(p, r, letter('x'))), api.ErrBound)
		}
	}
	for _, n := range []int{-1, -2, -10000} {
		for _, r := range []api.Rect{{X: 1, Y: 1, W: n, H: 1}, {X: 1, Y: 1, W: 1, H: n}, {X: 1, Y: 1, W: n, H: n}, {X: 2, Y: 2, W: n, H: 0}} {
			fails(t, r, call(Fill(p, r, letter('x'))), api.ErrBound)
		}
	}
}

func TestEveryCrop(t *testing.T) {
	p := draw("abcd/efgh/ijkl")
	for x := -2; x <= 5; x++ {
		for y := -2; y <= 4; y++ {
			for w := -2; w <= 6; w++ {
				for h := -2; h <= 5; h++ {
					r := api.Rect{X: x, Y: y, W: w, H: h}
					if got := call(Crop(p, r)); x >= 0 && y >= 0 && w > 0 && h > 0 && x+w <= 4 && y+h <= 3 {
						gives(t, r, got, slowCrop(p, r))
					} else {
						fails(t, r, got, api.ErrBound)
					}
				}
			}
		}
	}
	gives(t, "by hand", call(Crop(p, api.Rect{X: 1, Y: 1, W: 2, H: 2})), draw("fg/jk"))
	gives(t, "a corner", call(Crop(p, api.Rect{X: 3, Y: 2, W: 1, H: 1})), draw("l"))
	gives(t, "a row", call(Crop(p, api.Rect{Y: 1, W: 4, H: 1})), draw("efgh"))
	gives(t, "a column", call(Crop(p, api.Rect{X: 2, W: 1, H: 3})), draw("c/g/k"))
}

// Numbers whose sums wrap round lie in no picture.
func TestCropBeyond(t *testing.T) {
	p := draw("abcd/efgh/ijkl")
	for _, n := range append(beyond(), 257) {
		for _, r := range []api.Rect{{X: n, W: 1, H: 1}, {Y: n, W: 1, H: 1}, {X: 1, Y: 1, W: n, H: 1}, {X: 1, Y: 1, W: 1, H: n}, {X: n, W: -n, H: 1}, {Y: n, W: 1, H: -n}, {X: n, Y: n, W: n, H: n}, {X: n, Y: 0, W: math.MaxInt, H: 1}, {X: 0, Y: n, W: 1, H: math.MaxInt}} {
			fails(t, r, call(Crop(p, r)), api.ErrBound)
		}
	}
}

func TestStampByHand(t *testing.T) {
	p := draw("abc/def")
	for _, c := range []struct {
		q    string
		x, y int
		want string
	}{
		{"xy", 0, 0, "xyc/def"},
		{"xy", 2, 1, "abc/dex"},
		{"xy", -1, 0, "ybc/def"},
		{"xy", -2, 0, "abc/def"},
		{"xy", 3, 0, "abc/def"},
		{"xy", 0, 2, "abc/def"},
		{"x/y", 1, -1, "ayc/def"},
		{"x/y", 1, 1, "abc/dxf"},
		{"x/y", 1, -2, "abc/def"},
		{"uvwxy/UVWXY/12345/67890", -1, -1, "VWX/234"},
		{"x", 10000, 10000, "abc/def"},
		{"x", -10000, -10000, "abc/def"},
	} {
		gives(t, c, call(Stamp(p, draw(c.q), c.x, c.y, 0)), draw(c.want))
		if got := slowStamp(p, draw(c.q), c.x, c.y, 0); !same(got, draw(c.want)) {
			t.Errorf("the slow one: %v: %s", c, short(got))
		}
	}
	// q is the top one: by the mode that takes how far they are apart, and by the lesser.
	gives(t, "differ", call(Stamp(draw("ab"), draw("d"), 1, 0, 5)), api.Picture{Wide: 2, High: 1, P: []api.Pixel{letter('a'), letter(2)}})
	gives(t, "darken", call(Stamp(draw("dd"), draw("bf"), 0, 0, 3)), draw("bd"))
	// Half of white over black, beside what is not lain on.
	black, half := api.Picture{Wide: 2, High: 1, P: []api.Pixel{{A: 255}, {A: 255}}}, api.Picture{Wide: 1, High: 1, P: []api.Pixel{{R: 255, G: 255, B: 255, A: 128}}}
	gives(t, "half", call(Stamp(black, half, 1, 0, 0)), api.Picture{Wide: 2, High: 1, P: []api.Pixel{{A: 255}, {R: 128, G: 128, B: 128, A: 255}}})
	// Where neither covers, the zero pixel; where q does not lie, p as it is.
	clear := api.Picture{Wide: 2, High: 1, P: []api.Pixel{{R: 1}, {R: 2}}}
	gives(t, "clear", call(Stamp(clear, api.Picture{Wide: 1, High: 1, P: []api.Pixel{{G: 9}}}, 1, 0, 0)), api.Picture{Wide: 2, High: 1, P: []api.Pixel{{R: 1}, {}}})
}

func TestStampIsAsTold(t *testing.T) {
	m := mixer(3)
	for i := range 1200 {
		p, q, mode := m.small(7), m.small(7), i%6
		x, y := m.between(-8, 8), m.between(-8, 8)
		gives(t, []int{x, y, mode}, call(Stamp(p, q, x, y, mode)), slowStamp(p, q, x, y, mode))
		// On itself.
		gives(t, []int{x, y, mode}, call(Stamp(p, p, x, y, mode)), slowStamp(p, p, x, y, mode))
	}
}

func TestStampBeyond(t *testing.T) {
	p := draw("ab/cd")
	for _, n := range beyond() {
		fails(t, n, call(Stamp(p, p, n, 0, 0)), api.ErrBound)
		fails(t, n, call(Stamp(p, p, 0, n, 0)), api.ErrBound)
		fails(t, n, call(Stamp(p, p, n, n, 0)), api.ErrBound)
		fails(t, n, call(Stamp(p, p, 0, 0, n)), api.ErrBound)
	}
	for _, mode := range []int{-1, 6, 7, 256} {
		fails(t, mode, call(Stamp(p, p, 0, 0, mode)), api.ErrBound)
		// Wherever q lies, also beside p.
		fails(t, mode, call(Stamp(p, p, 2, 0, mode)), api.ErrBound)
		fails(t, mode, call(Stamp(p, p, 10000, -10000, mode)), api.ErrBound)
	}
}

// P122

func TestTurnsByHand(t *testing.T) {
	p := draw("abc/def")
	for i, c := range []struct {
		got  told
		want string
	}{
		{call(Flip(p, false)), "cba/fed"},
		{call(Flip(p, true)), "def/abc"},
		{call(Flip(draw("a"), true)), "a"},
		{call(Flip(draw("abcd"), false)), "dcba"},
		{call(Flip(draw("abcd"), true)), "abcd"},
		{call(Turn(p, 0)), "abc/def"},
		{call(Turn(p, 1)), "da/eb/fc"},
		{call(Turn(p, 2)), "fed/cba"},
		{call(Turn(p, 3)), "cf/be/ad"},
		{call(Turn(p, 4)), "abc/def"},
		{call(Turn(p, 5)), "da/eb/fc"},
		{call(Turn(p, -1)), "cf/be/ad"},
		{call(Turn(p, -2)), "fed/cba"},
		{call(Turn(p, -3)), "da/eb/fc"},
		{call(Turn(p, -4)), "abc/def"},
		{call(Turn(p, -5)), "cf/be/ad"},
		{call(Turn(p, math.MaxInt)), "cf/be/ad"},
		{call(Turn(p, math.MinInt)), "abc/def"},
		{call(Turn(p, math.MinInt+1)), "da/eb/fc"},
		{call(Turn(p, 1<<32+2)), "fed/cba"},
		{call(Scale(p, 3, 2)), "abc/def"},
		{call(Scale(p, 2, 4)), "ab/ab/de/de"},
		{call(Scale(p, 6, 1)), "aabbcc"},
		{call(Scale(p, 1, 1)), "a"},
		{call(Scale(p, 4, 3)), "aabc/aabc/ddef"},
		{call(Scale(draw("abcde"), 3, 1)), "abd"},
		{call(Scale(draw("a/b/c/d/e/f/g"), 1, 4)), "a/b/d/f"},
	} {
		gives(t, i, c.got, draw(c.want))
	}
}

func TestTurnsAreAsTold(t *testing.T) {
	m := mixer(4)
	for range 300 {
		p := m.small(12)
		for _, down := range []bool{false, true} {
			gives(t, down, call(Flip(p, down)), slowFlip(p, down))
		}
		turned := p
		for quarters := range 9 {
			gives(t, quarters, call(Turn(p, quarters)), turned)
			gives(t, quarters-12, call(Turn(p, quarters-12)), turned)
			turned = slowTurn(turned)
		}
	}
}

func TestScaleIsAsTold(t *testing.T) {
	m := mixer(5)
	for range 500 {
		p, wide, high := m.small(13), m.between(1, 20), m.between(1, 20)
		gives(t, []int{wide, high}, call(Scale(p, wide, high)), slowScale(p, wide, high))
	}
	// Every width of every other one, in a row.
	for _, from := range []int{1, 2, 3, 7, 16, 100, 255, 256} {
		row, column := m.picture(from, 1), m.picture(1, from)
		for to := 1; to <= 256; to++ {
			gives(t, []int{from, to}, call(Scale(row, to, 1)), slowScale(row, to, 1))
			gives(t, []int{from, to}, call(Scale(column, 1, to)), slowScale(column, 1, to))
		}
	}
}

func TestScaleBeyond(t *testing.T) {
	p := draw("ab/cd")
	for _, n := range noSides() {
		fails(t, n, call(Scale(p, n, 1)), api.ErrBound)
		fails(t, n, call(Scale(p, 1, n)), api.ErrBound)
		fails(t, n, call(Scale(p, n, n)), api.ErrBound)
	}
}

func TestHalfByHand(t *testing.T) {
	of := func(wide, high int, l ...api.Pixel) api.Picture { return api.Picture{Wide: wide, High: high, P: l} }
	red := func(r, a uint8) api.Pixel { return api.Pixel{R: r, A: a} }
	for i, c := range []struct{ p, want api.Picture }{
		{of(1, 1, red(5, 9)), of(1, 1, red(5, 9))},
		{of(1, 1, red(5, 0)), of(1, 1, api.Pixel{})},
		{of(2, 2, red(10, 255), red(20, 255), red(30, 255), red(40, 255)), of(1, 1, red(25, 255))},
		{of(3, 1, red(10, 255), red(20, 255), red(7, 9)), of(2, 1, red(15, 255), red(7, 9))},
		{of(1, 3, red(10, 255), red(21, 255), red(7, 9)), of(1, 2, red(16, 255), red(7, 9))},
		// At the edges only those that are there count: nothing is thinned.
		{of(3, 3, red(0, 255), red(0, 255), red(1, 255), red(0, 255), red(0, 255), red(3, 255), red(5, 255), red(7, 255), red(9, 255)), of(2, 2, red(0, 255), red(2, 255), red(6, 255), red(9, 255))},
		// By how much each covers.
		{of(2, 2, red(100, 255), red(0, 0), red(0, 0), red(0, 0)), of(1, 1, red(100, 64))},
	} {
		gives(t, i, call(Half(c.p)), c.want)
		if got := slowHalf(c.p); !same(got, c.want) {
			t.Errorf("the slow one: %d: %s", i, short(got))
		}
	}
}

func TestHalfIsAsTold(t *testing.T) {
	m := mixer(6)
	for wide := 1; wide <= 9; wide++ {
		for high := 1; high <= 9; high++ {
			for range 6 {
				p := m.picture(wide, high)
				gives(t, []int{wide, high}, call(Half(p)), slowHalf(p))
			}
		}
	}
	for _, c := range [][2]int{{256, 256}, {255, 255}, {255, 1}, {1, 256}, {256, 3}} {
		p := m.picture(c[0], c[1])
		gives(t, c, call(Half(p)), slowHalf(p))
	}
}

// P123

func TestLineByHand(t *testing.T) {
	p := draw("....../....../......")
	for _, c := range []struct {
		at   [4]int
		want string
	}{
		{[4]int{0, 0, 0, 0}, "x...../....../......"},
		{[4]int{5, 2, 5, 2}, "....../....../.....x"},
		{[4]int{6, 2, 6, 2}, "....../....../......"},
		{[4]int{0, 3, 0, 3}, "....../....../......"},
		{[4]int{0, 1, 5, 1}, "....../xxxxxx/......"},
		{[4]int{5, 1, 0, 1}, "....../xxxxxx/......"},
		{[4]int{2, 0, 2, 2}, "..x.../..x.../..x..."},
		{[4]int{2, 2, 2, 0}, "..x.../..x.../..x..."},
		{[4]int{0, 0, 2, 2}, "x...../.x..../..x..."},
		{[4]int{2, 2, 0, 0}, "x...../.x..../..x..."},
		{[4]int{0, 2, 2, 0}, "..x.../.x..../x....."},
		// Halfway goes to the greater number, whichever way the line goes.
		{[4]int{0, 0, 2, 1}, "x...../.xx.../......"},
		{[4]int{2, 1, 0, 0}, "x...../.xx.../......"},
		{[4]int{0, 1, 2, 0}, "..x.../xx..../......"},
		{[4]int{2, 0, 0, 1}, "..x.../xx..../......"},
		{[4]int{0, 0, 1, 2}, "x...../.x..../.x...."},
		{[4]int{1, 0, 0, 2}, ".x..../.x..../x....."},
		{[4]int{0, 0, 5, 2}, "xx..../..xx../....xx"},
		{[4]int{5, 2, 0, 0}, "xx..../..xx../....xx"},
		{[4]int{0, 2, 5, 0}, "....xx/..xx../xx...."},
		// From outside to outside.
		{[4]int{-3, 1, 9, 1}, "....../xxxxxx/......"},
		{[4]int{-2, -2, 4, 4}, "x...../.x..../..x..."},
		{[4]int{-4, 2, 2, -4}, "....../....../......"},
		{[4]int{-1, 0, -1, 2}, "....../....../......"},
		{[4]int{-10000, 0, 10000, 0}, "xxxxxx/....../......"},
		{[4]int{10000, 2, -10000, 2}, "....../....../xxxxxx"},
		{[4]int{-10000, -10000, 10000, 10000}, "x...../.x..../..x..."},
		{[4]int{3, 10000, 3, -10000}, "...x../...x../...x.."},
		{[4]int{10000, 10000, 10000, 10000}, "....../....../......"},
	} {
		a := c.at
		gives(t, a, call(Line(p, a[0], a[1], a[2], a[3], letter('x'))), draw(c.want))
		if got := slowLine(p, a[0], a[1], a[2], a[3], letter('x')); !same(got, draw(c.want)) {
			t.Errorf("the slow one: %v: %s", a, short(got))
		}
	}
	// They become c, and are not covered by it.
	gives(t, "clear", call(Line(draw("ab"), 0, 0, 0, 0, api.Pixel{G: 3})), api.Picture{Wide: 2, High: 1, P: []api.Pixel{{G: 3}, letter('b')}})
}

func TestEveryShortLine(t *testing.T) {
	p := draw(strings.TrimSuffix(strings.Repeat(strings.Repeat(".", 9)+"/", 7), "/"))
	for x0 := -2; x0 <= 10; x0++ {
		for y0 := -2; y0 <= 8; y0++ {
			for dx := -7; dx <= 7; dx++ {
				for dy := -7; dy <= 7; dy++ {
					gives(t, []int{x0, y0, dx, dy}, call(Line(p, x0, y0, x0+dx, y0+dy, letter('x'))), slowLine(p, x0, y0, x0+dx, y0+dy, letter('x')))
				}
			}
		}
	}
}

func TestLongLinesAreAsTold(t *testing.T) {
	m := mixer(7)
	p := m.picture(256, 200)
	for _, far := range []int{300, 2000, 10000} {
		for range 8 {
			at := [4]int{m.between(-far, far), m.between(-far, far), m.between(-far, far), m.between(-far, far)}
			gives(t, at, call(Line(p, at[0], at[1], at[2], at[3], letter('x'))), slowLine(p, at[0], at[1], at[2], at[3], letter('x')))
			// Through the picture.
			at[2], at[3] = m.below(256)*2-at[0], m.below(200)*2-at[1]
			if max(at[2], at[3]) <= 10000 && min(at[2], at[3]) >= -10000 {
				gives(t, at, call(Line(p, at[0], at[1], at[2], at[3], letter('x'))), slowLine(p, at[0], at[1], at[2], at[3], letter('x')))
			}
		}
	}
}

func TestLineBeyond(t *testing.T) {
	p := draw("ab/cd")
	for _, n := range beyond() {
		for at := range 4 {
			a := [4]int{}
			a[at] = n
			fails(t, a, call(Line(p, a[0], a[1], a[2], a[3], letter('x'))), api.ErrBound)
		}
		fails(t, n, call(Line(p, n, n, n, n, letter('x'))), api.ErrBound)
	}
}

func TestFloodByHand(t *testing.T) {
	for _, c := range []struct {
		p    string
		x, y int
		want string
	}{
		{"a", 0, 0, "x"},
		{"aab/bab/aba", 0, 0, "xxb/bxb/aba"},
		{"aab/bab/aba", 1, 1, "xxb/bxb/aba"},
		{"aab/bab/aba", 2, 2, "aab/bab/abx"},
		{"aab/bab/aba", 2, 0, "aax/bax/aba"},
		{"aab/bab/aba", 1, 2, "aab/bab/axa"},
		{"aaa/aaa", 2, 1, "xxx/xxx"},
		// Not across corners, nor from a row's end to the next one's beginning.
		{"ab/ba", 0, 0, "xb/ba"},
		{"bba/abb/bbb", 2, 0, "bbx/abb/bbb"},
		{"bba/abb/bbb", 0, 1, "bba/xbb/bbb"},
		// Around, and back to the middle.
		{"aaaaa/bbbba/aaaba/abbba/aaaaa", 0, 2, "xxxxx/bbbbx/xxxbx/xbbbx/xxxxx"},
		// What had the color ahead is neither flooded through nor changed.
		{"axa", 0, 0, "xxa"},
	} {
		gives(t, c, call(Flood(draw(c.p), c.x, c.y, letter('x'))), draw(c.want))
		if got := slowFlood(draw(c.p), c.x, c.y, letter('x')); !same(got, draw(c.want)) {
			t.Errorf("the slow one: %v: %s", c, short(got))
		}
	}
}

// Like is what is the same in all four, whether it is seen or not.
func TestFloodOfUnlike(t *testing.T) {
	base := api.Pixel{R: 1, G: 1, B: 1}
	for _, other := range []api.Pixel{{R: 2, G: 1, B: 1}, {R: 1, G: 2, B: 1}, {R: 1, G: 1, B: 2}, {R: 1, G: 1, B: 1, A: 1}, {}} {
		p := api.Picture{Wide: 3, High: 1, P: []api.Pixel{base, base, other}}
		gives(t, other, call(Flood(p, 0, 0, letter('x'))), api.Picture{Wide: 3, High: 1, P: []api.Pixel{letter('x'), letter('x'), other}})
	}
}

func TestFloodIsAsTold(t *testing.T) {
	m := mixer(8)
	for range 400 {
		p := m.few(m.between(1, 12), m.between(1, 12), m.between(1, 3))
		x, y, c := m.below(p.Wide), m.below(p.High), letter(byte('a'+m.below(4)))
		gives(t, []int{x, y}, call(Flood(p, x, y, c)), slowFlood(p, x, y, c))
	}
}

// As many as there can be, and as long a way as there can be.
func TestFloodOfMany(t *testing.T) {
	plain := draw(strings.TrimSuffix(strings.Repeat(strings.Repeat("a", 256)+"/", 256), "/"))
	full := draw(strings.TrimSuffix(strings.Repeat(strings.Repeat("x", 256)+"/", 256), "/"))
	for _, at := range [][2]int{{0, 0}, {255, 0}, {0, 255}, {255, 255}, {128, 100}} {
		gives(t, at, call(Flood(plain, at[0], at[1], letter('x'))), full)
	}
	var way, want []string
	for y := range 255 {
		row := strings.Repeat("a", 256)
		if y%4 == 1 {
			row = strings.Repeat("b", 255) + "a"
		} else if y%4 == 3 {
			row = "a" + strings.Repeat("b", 255)
		}
		way, want = append(way, row), append(want, strings.ReplaceAll(row, "a", "x"))
	}
	gives(t, "way", call(Flood(draw(strings.Join(way, "/")), 0, 0, letter('x'))), draw(strings.Join(want, "/")))
}

func TestFloodOfNone(t *testing.T) {
	p := draw("abc/def")
	for _, n := range append(beyond(), -1) {
		fails(t, n, call(Flood(p, n, 0, letter('x'))), api.ErrBound)
		fails(t, n, call(Flood(p, 0, n, letter('x'))), api.ErrBound)
	}
	for _, at := range [][2]int{{3, 0}, {3, 1}, {0, 2}, {2, 2}, {-1, 1}, {4, -1}} {
		fails(t, at, call(Flood(p, at[0], at[1], letter('x'))), api.ErrBound)
	}
}

// P124

func TestAlways(t *testing.T) {
	m := mixer(9)
	for i := range 400 {
		p := m.few(m.between(1, 14), m.between(1, 14), m.between(1, 4))
		if i%100 == 0 {
			p = m.few(256, m.between(1, 256), 2)
		}
		for _, down := range []bool{false, true} {
			once, _ := Flip(p, down)
			gives(t, "flipped twice", call(Flip(once, down)), p)
		}
		for _, quarters := range []int{1, -1, 2, 3, -7, m.between(-1000, 1000)} {
			turned := p
			for range 4 {
				turned, _ = Turn(turned, quarters)
			}
			gives(t, "turned four times", call(turned, nil), p)
			there, _ := Turn(p, quarters)
			gives(t, "turned back", call(Turn(there, -quarters)), p)
		}
		x, y, c := m.below(p.Wide), m.below(p.High), letter(byte('a'+m.below(5)))
		once, _ := Flood(p, x, y, c)
		gives(t, "flooded twice", call(Flood(once, x, y, c)), once)
	}
}

// P4

// What is handed over is only read, what is answered is new memory, also where nothing changes.
func TestNewMemory(t *testing.T) {
	room := append(draw("aabb/abba").P, letter('!'), letter('!'))
	p := api.Picture{Wide: 4, High: 2, P: room[:8]}
	more := append(draw("xy").P, letter('?'))
	q := api.Picture{Wide: 2, High: 1, P: more[:2]}
	asRoom, asMore := slices.Clone(room), slices.Clone(more)
	for i, got := range []told{
		call(Fill(p, api.Rect{}, letter('z'))), call(Fill(p, api.Rect{W: 9, H: 9}, letter('z'))),
		call(Crop(p, api.Rect{W: 4, H: 2})), call(Crop(p, api.Rect{Y: 1, W: 4, H: 1})),
		call(Stamp(p, q, 9, 9, 0)), call(Stamp(p, q, 0, 0, 0)), call(Stamp(q, p, 0, 0, 0)), call(Stamp(p, p, 0, 0, 0)),
		call(Flip(p, false)), call(Flip(p, true)), call(Flip(q, true)),
		call(Turn(p, 0)), call(Turn(p, 1)), call(Turn(p, 2)), call(Turn(p, 3)),
		call(Scale(p, 4, 2)), call(Scale(p, 9, 9)), call(Half(p)), call(Half(draw("a"))),
		call(Line(p, 9, 9, 9, 9, letter('z'))), call(Line(p, 0, 0, 3, 1, letter('z'))),
		call(Flood(p, 0, 0, letter('a'))), call(Flood(p, 0, 0, letter('z'))),
	} {
		if got.err != nil {
			t.Error(i, got.err)
		}
		l := got.p.P[:cap(got.p.P)]
		for j := range l {
			l[j] = api.Pixel{R: 1, G: 1, B: 1, A: 1}
		}
		if !slices.Equal(room, asRoom) || !slices.Equal(more, asMore) {
			t.Fatalf("%d: %v %v", i, room, more)
		}
	}
}
