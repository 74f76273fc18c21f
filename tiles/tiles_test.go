package tiles

import (
	"fmt"
	"math"
	"slices"
	"testing"

	"layercake/api"
	"layercake/raster"
)

// mixer makes mixed numbers, the same ones at each run.
type mixer uint64

func (m *mixer) below(n int) int {
	*m = *m*6364136223846793005 + 1442695040888963407
	return int(*m>>33) % n
}

// between two numbers, both of them among it.
func (m *mixer) between(from, to int) int { return from + m.below(to-from+1) }

func (m *mixer) pixel() api.Pixel {
	return api.Pixel{R: uint8(m.below(256)), G: uint8(m.below(256)), B: uint8(m.below(256)), A: uint8(m.below(256))}
}

func (m *mixer) picture(wide, high int) api.Picture {
	p := api.Picture{Wide: wide, High: high}
	for range wide * high {
		p.P = append(p.P, m.pixel())
	}
	return p
}

// patched: of one color, but for some parts and some single pixels: so that some tiles are plain, and some are not.
func (m *mixer) patched(wide, high int) api.Picture {
	p := colored(wide, high, m.pixel())
	for range m.below(4) {
		r := api.Rect{X: m.between(-20, wide), Y: m.between(-20, high), W: m.below(wide + 20), H: m.below(high + 20)}
		p, _ = raster.Fill(p, r, m.pixel())
	}
	for range m.below(3) {
		p.P[m.below(len(p.P))] = m.pixel()
	}
	return p
}

func colored(wide, high int, c api.Pixel) api.Picture {
	return api.Picture{Wide: wide, High: high, P: slices.Repeat([]api.Pixel{c}, wide*high)}
}

func same(a, b api.Picture) bool {
	return a.Wide == b.Wide && a.High == b.High && slices.Equal(a.P, b.P)
}

func copied(p api.Picture) api.Picture {
	p.P = slices.Clone(p.P)
	return p
}

func gridOf(t *testing.T, p api.Picture) *Grid {
	t.Helper()
	g, err := Of(p)
	if g == nil || err != nil {
		t.Fatalf("Of %d by %d: %v, %v", p.Wide, p.High, g, err)
	}
	return g
}

// isOf: all that a grid tells is that of a picture, but for its single pixels.
func isOf(t *testing.T, name any, g *Grid, p api.Picture) {
	t.Helper()
	if g == nil {
		t.Fatalf("%v: no grid", name)
	}
	if wide, high := g.Size(); wide != p.Wide || high != p.High {
		t.Errorf("%v: %d by %d, want %d by %d", name, wide, high, p.Wide, p.High)
	}
	if !same(g.Picture(), p) {
		t.Errorf("%v: another picture", name)
	}
	if got, want := g.Plain(), slowPlain(p); got != want {
		t.Errorf("%v: %d plain ones, want %d", name, got, want)
	}
}

// told by one call that makes a grid.
type told struct {
	g   *Grid
	err error
}

func call(g *Grid, err error) told { return told{g, err} }

// fails: with just that error, bare, and no grid.
func fails(t *testing.T, name any, got told, want error) {
	t.Helper()
	if got.g != nil || got.err != want {
		t.Errorf("%v: %v, %#v, want the bare %v", name, got.g != nil, got.err, want)
	}
}

// asRaster: the grid of what raster answers, or its error.
func asRaster(t *testing.T, name any, got told, p api.Picture, err error) {
	t.Helper()
	if err != nil {
		fails(t, name, got, err)
		return
	}
	if got.err != nil {
		t.Fatalf("%v: %v", name, got.err)
	}
	isOf(t, name, got.g, p)
}

// sides of which tiles are whole, or just not.
func sides() []int { return []int{1, 2, 15, 16, 17, 31, 32, 33, 48, 100, 255, 256} }

// far numbers: at, and beyond, what a place may have.
func far() []int {
	return []int{10000, -10000, 10001, -10001, 1 << 31, -1 << 31, 1 << 32, 1<<32 + 1, math.MaxInt, math.MinInt, math.MaxInt - 1, math.MinInt + 1}
}

func notRight() []api.Picture {
	l := []api.Picture{{}, {Wide: 1, High: 1}, {P: []api.Pixel{{}}}, {Wide: 1 << 32, High: 1 << 32}, {Wide: math.MinInt, High: 2}, {Wide: -1, High: -1, P: make([]api.Pixel, 1)}}
	for _, c := range [][3]int{{2, 2, 3}, {2, 2, 5}, {257, 1, 257}, {1, 257, 257}, {0, 4, 0}, {4, 0, 0}, {-2, 2, 4}, {256, 256, 65535}, {256, 256, 65537}, {math.MaxInt, math.MaxInt, 1}} {
		l = append(l, api.Picture{Wide: c[0], High: c[1], P: make([]api.Pixel, c[2])})
	}
	return l
}

// P130

func TestEverySize(t *testing.T) {
	m := mixer(1)
	for _, wide := range sides() {
		for _, high := range sides() {
			name := [2]int{wide, high}
			p := m.picture(wide, high)
			isOf(t, name, gridOf(t, p), p)
			p = colored(wide, high, m.pixel())
			isOf(t, name, gridOf(t, p), p)
			p = m.patched(wide, high)
			isOf(t, name, gridOf(t, p), p)
		}
	}
}

func TestAt(t *testing.T) {
	m := mixer(2)
	for _, c := range [][2]int{{1, 1}, {16, 16}, {17, 16}, {16, 17}, {40, 33}, {256, 1}, {1, 256}, {256, 256}} {
		for _, p := range []api.Picture{m.picture(c[0], c[1]), m.patched(c[0], c[1])} {
			g := gridOf(t, p)
			for i, want := range p.P {
				if got, err := g.At(i%p.Wide, i/p.Wide); got != want || err != nil {
					t.Fatalf("%v at %d: %v, %v, want %v", c, i, got, err, want)
				}
			}
			for _, n := range append(far(), -1, -16, -17) {
				noneAt(t, g, n, 0)
				noneAt(t, g, 0, n)
				noneAt(t, g, n, n)
			}
			for _, at := range [][2]int{{c[0], 0}, {0, c[1]}, {c[0], c[1]}, {c[0] - 1, c[1]}, {c[0], c[1] - 1}, {-1, c[1] - 1}, {c[0] - 1, -1}, {c[0] + 15, 0}, {0, c[1] + 15}} {
				noneAt(t, g, at[0], at[1])
			}
		}
	}
}

func noneAt(t *testing.T, g *Grid, x, y int) {
	t.Helper()
	if got, err := g.At(x, y); got != (api.Pixel{}) || err != api.ErrBound {
		wide, high := g.Size()
		t.Errorf("%d by %d at %d, %d: %v, %#v", wide, high, x, y, got, err)
	}
}

// One pixel that is unlike, in just one of four, wherever it stands, makes one tile not plain.
func TestPlainButForOne(t *testing.T) {
	base := api.Pixel{R: 1, G: 2, B: 3, A: 0}
	for _, c := range [][3]int{{33, 20, 6}, {16, 16, 1}, {32, 16, 2}, {17, 17, 4}, {2, 1, 1}} {
		p := colored(c[0], c[1], base)
		if got := gridOf(t, p).Plain(); got != c[2] {
			t.Errorf("%v: %d plain ones", c, got)
		}
		for i := range p.P {
			for _, other := range []api.Pixel{{R: 2, G: 2, B: 3}, {R: 1, G: 3, B: 3}, {R: 1, G: 2, B: 4}, {R: 1, G: 2, B: 3, A: 1}} {
				p.P[i] = other
				if got, want := gridOf(t, p).Plain(), slowPlain(p); got != want || got < c[2]-1 {
					t.Errorf("%v, unlike at %d: %d plain ones, want %d", c, i, got, want)
				}
			}
			p.P[i] = base
		}
	}
	// A tile of one pixel has one color, whatever stands beside it.
	m := mixer(3)
	if got := gridOf(t, m.picture(17, 17)).Plain(); got != 1 {
		t.Errorf("%d plain ones", got)
	}
	if got := gridOf(t, m.picture(1, 1)).Plain(); got != 1 {
		t.Errorf("%d plain ones", got)
	}
}

func TestOfNotRight(t *testing.T) {
	for i, p := range notRight() {
		fails(t, i, call(Of(p)), api.ErrShape)
	}
}

// P131

func TestFillEveryPart(t *testing.T) {
	m := mixer(4)
	p := m.patched(34, 18)
	p.P[0], p.P[1] = api.Pixel{R: 1}, api.Pixel{R: 2}
	g := gridOf(t, p)
	edges := []int{-17, -1, 0, 1, 15, 16, 17, 18, 31, 32, 33, 34, 35, 50}
	for _, x := range edges {
		for _, y := range edges {
			for _, w := range []int{0, 1, 2, 15, 16, 17, 34, 70} {
				for _, h := range []int{0, 1, 16, 18, 40} {
					r := api.Rect{X: x, Y: y, W: w, H: h}
					want, err := raster.Fill(p, r, api.Pixel{G: 9})
					asRaster(t, r, call(g.Fill(r, api.Pixel{G: 9})), want, err)
				}
			}
		}
	}
	isOf(t, "the older one", g, p)
}

func TestFillFar(t *testing.T) {
	m := mixer(5)
	p := m.picture(256, 250)
	g := gridOf(t, p)
	for _, n := range append(far(), -1, 0, 9999, -9999, -9990, -9750) {
		for _, r := range []api.Rect{
			{X: n, W: 10000, H: 10000}, {Y: n, W: 10000, H: 10000}, {X: n, Y: n, W: 10000, H: 10000}, {X: n, Y: n, W: 9, H: 9},
			{W: n, H: 10}, {W: 10, H: n}, {W: n, H: n}, {X: -1, Y: -1, W: n, H: n}, {X: n, Y: n, W: n, H: n}, {X: 300, Y: 300, W: n},
		} {
			want, err := raster.Fill(p, r, api.Pixel{G: 9})
			asRaster(t, r, call(g.Fill(r, api.Pixel{G: 9})), want, err)
		}
	}
	for _, r := range []api.Rect{{X: 10001}, {X: -10001}, {Y: 10001}, {Y: -10001}, {W: 10001}, {H: 10001}, {W: -1}, {H: -1}, {X: 10000, Y: 10000, W: -1}} {
		fails(t, r, call(g.Fill(r, api.Pixel{})), api.ErrBound)
	}
}

func TestStampIsAsRaster(t *testing.T) {
	m := mixer(6)
	for i := range 600 {
		p := m.patched(m.between(1, 50), m.between(1, 50))
		q := m.picture(m.between(1, 40), m.between(1, 40))
		if i%60 == 0 {
			p, q = m.patched(256, 256), m.picture(m.between(1, 256), m.between(1, 256))
		}
		x, y, mode := m.between(-45, 55), m.between(-45, 55), m.below(6)
		want, err := raster.Stamp(p, q, x, y, mode)
		asRaster(t, []int{x, y, mode}, call(gridOf(t, p).Stamp(q, x, y, mode)), want, err)
	}
}

func TestStampFaults(t *testing.T) {
	m := mixer(7)
	p, q := m.picture(40, 20), m.picture(3, 3)
	g := gridOf(t, p)
	for i, bad := range notRight() {
		fails(t, i, call(g.Stamp(bad, 0, 0, 0)), api.ErrShape)
		fails(t, i, call(g.Stamp(bad, 10001, math.MinInt, 9)), api.ErrShape)
	}
	for _, n := range far() {
		for _, at := range [][3]int{{n, 0, 0}, {0, n, 1}, {n, n, 5}, {0, 0, n}, {300, 300, n}} {
			want, err := raster.Stamp(p, q, at[0], at[1], at[2])
			asRaster(t, at, call(g.Stamp(q, at[0], at[1], at[2])), want, err)
		}
	}
	for _, at := range [][3]int{{10001, 0, 0}, {-10001, 0, 0}, {0, 10001, 0}, {0, -10001, 0}, {0, 0, -1}, {0, 0, 6}, {500, 500, 6}, {-10000, 10000, -1}} {
		fails(t, at, call(g.Stamp(q, at[0], at[1], at[2])), api.ErrBound)
	}
	for _, at := range [][2]int{{10000, 10000}, {-10000, -10000}, {40, 0}, {0, 20}, {-3, 0}, {0, -3}} {
		got, err := g.Stamp(q, at[0], at[1], 0)
		asRaster(t, at, told{got, err}, p, nil)
	}
}

// What is changed is plain again where it has one color again.
func TestPlainAgain(t *testing.T) {
	g := gridOf(t, colored(40, 40, api.Pixel{R: 5, A: 255}))
	h, _ := g.Fill(api.Rect{X: 10, Y: 10, W: 20, H: 3}, api.Pixel{G: 7, A: 255})
	if got := h.Plain(); got != 7 {
		t.Errorf("%d plain ones", got)
	}
	for _, r := range []api.Rect{{W: 40, H: 40}, {X: 10, Y: 10, W: 20, H: 3}} {
		if k, _ := h.Fill(r, api.Pixel{R: 5, A: 255}); k.Plain() != 9 {
			t.Errorf("%v: %d plain ones", r, k.Plain())
		}
	}
	if k, _ := h.Stamp(colored(40, 16, api.Pixel{B: 1, A: 255}), 0, 0, 0); k.Plain() != 9 {
		t.Errorf("%d plain ones", k.Plain())
	}
}

func TestChanged(t *testing.T) {
	m := mixer(8)
	for range 300 {
		p := m.patched(m.between(1, 80), m.between(1, 80))
		q := copied(p)
		for range m.below(4) {
			q.P[m.below(len(q.P))] = m.pixel()
		}
		if m.below(8) == 0 {
			q = m.patched(p.Wide, p.High)
		}
		want := slowChanged(p, q)
		for _, c := range [][2]api.Picture{{p, q}, {q, p}} {
			if got, err := Changed(gridOf(t, c[0]), gridOf(t, c[1])); !slices.Equal(got, want) || err != nil {
				t.Fatalf("%d by %d: %v, %v, want %v", p.Wide, p.High, got, err, want)
			}
		}
	}
}

// However a grid came to be as it is.
func TestChangedAndBack(t *testing.T) {
	m := mixer(9)
	p := m.patched(60, 60)
	g := gridOf(t, p)
	h, _ := g.Fill(api.Rect{X: 14, Y: 14, W: 20, H: 20}, api.Pixel{R: 77})
	back, _ := raster.Crop(p, api.Rect{X: 14, Y: 14, W: 20, H: 20})
	full := copied(back)
	for i := range full.P {
		full.P[i].A = 255
	}
	k, _ := h.Stamp(full, 14, 14, 0)
	for _, c := range [][2]*Grid{{g, h}, {h, k}, {g, k}, {g, g}, {h, h}} {
		want := slowChanged(c[0].Picture(), c[1].Picture())
		if got, err := Changed(c[0], c[1]); !slices.Equal(got, want) || err != nil {
			t.Errorf("%v, %v, want %v", got, err, want)
		}
	}
	none, err := g.Fill(api.Rect{X: 14, Y: 14, W: 0, H: 20}, api.Pixel{R: 77})
	if l, e := Changed(g, none); len(l) != 0 || err != nil || e != nil {
		t.Errorf("%v, %v, %v", l, err, e)
	}
}

func TestChangedOfEveryTile(t *testing.T) {
	p := colored(256, 250, api.Pixel{})
	for at := range p.P {
		if at%37 != 0 && at != len(p.P)-1 {
			continue
		}
		q := copied(p)
		q.P[at].A = 1
		x, y := at%256/16*16, at/256/16*16
		want := []api.Rect{{X: x, Y: y, W: 16, H: min(16, 250-y)}}
		if got, err := Changed(gridOf(t, p), gridOf(t, q)); !slices.Equal(got, want) || err != nil {
			t.Fatalf("%d: %v, %v, want %v", at, got, err, want)
		}
	}
	q := colored(256, 250, api.Pixel{A: 1})
	if got, err := Changed(gridOf(t, p), gridOf(t, q)); !slices.Equal(got, slowChanged(p, q)) || len(got) != 256 || err != nil {
		t.Errorf("%d of them, %v", len(got), err)
	}
}

func TestChangedOfUnlikeSizes(t *testing.T) {
	m := mixer(10)
	l := []*Grid{nil, {}}
	for _, c := range [][2]int{{20, 33}, {17, 33}, {20, 34}, {33, 20}, {32, 16}, {16, 32}, {1, 1}, {256, 256}} {
		l = append(l, gridOf(t, m.picture(c[0], c[1])))
	}
	for i, a := range l {
		for j, b := range l {
			if i == j && i > 1 {
				continue
			}
			if got, err := Changed(a, b); got != nil || err != api.ErrShape {
				t.Errorf("%d, %d: %v, %#v", i, j, got, err)
			}
		}
	}
}

// Also a grid that no call made is none.
func TestNoGrid(t *testing.T) {
	for _, none := range []*Grid{nil, {}} {
		if p := none.Picture(); p.Wide != 0 || p.High != 0 || len(p.P) != 0 {
			t.Error(p)
		}
		if wide, high := none.Size(); wide != 0 || high != 0 || none.Plain() != 0 || none.Pack() != "" {
			t.Error(wide, high, none.Plain(), none.Pack())
		}
		for _, n := range append(far(), 0, -1, 1) {
			if c, err := none.At(n, 0); c != (api.Pixel{}) || err != api.ErrShape {
				t.Error(n, c, err)
			}
			fails(t, n, call(none.Fill(api.Rect{X: n, W: n}, api.Pixel{R: 1})), api.ErrShape)
			fails(t, n, call(none.Stamp(colored(1, 1, api.Pixel{R: 1}), n, n, n)), api.ErrShape)
			fails(t, n, call(none.Stamp(api.Picture{}, n, n, n)), api.ErrShape)
		}
	}
}

// P133

func TestOlderOnesStay(t *testing.T) {
	m := mixer(11)
	p := m.patched(70, 50)
	grids, pictures := []*Grid{gridOf(t, p)}, []api.Picture{p}
	for range 60 {
		at := m.below(len(grids))
		g, p := grids[at], pictures[at]
		r := api.Rect{X: m.between(-20, 70), Y: m.between(-20, 50), W: m.below(60), H: m.below(60)}
		c, q, mode := m.pixel(), m.picture(m.between(1, 30), m.between(1, 30)), m.below(6)
		filled, _ := g.Fill(r, c)
		asFilled, _ := raster.Fill(p, r, c)
		stamped, _ := g.Stamp(q, r.X, r.Y, mode)
		asStamped, _ := raster.Stamp(p, q, r.X, r.Y, mode)
		unpacked, _ := Unpack(g.Pack())
		grids, pictures = append(grids, filled, stamped, unpacked), append(pictures, asFilled, asStamped, p)
	}
	for i, g := range grids {
		isOf(t, i, g, pictures[i])
	}
}

// P4

// What is handed over is only read, and not kept; what is answered is new memory.
func TestNewMemory(t *testing.T) {
	m := mixer(12)
	room := m.picture(20, 21).P
	asRoom := slices.Clone(room)
	p := api.Picture{Wide: 20, High: 20, P: room[:400]}
	g := gridOf(t, p)
	want := copied(p)
	q := m.picture(9, 9)
	stamped, _ := g.Stamp(q, 3, 3, 0)
	asStamped, _ := raster.Stamp(p, q, 3, 3, 0)
	h, _ := g.Fill(api.Rect{W: 1, H: 1}, api.Pixel{R: 1})
	if !slices.Equal(room, asRoom) {
		t.Error("what was handed over is changed")
	}
	for i := range room {
		room[i] = api.Pixel{R: 3, G: 3, B: 3, A: 3}
	}
	for i := range q.P {
		q.P[i] = api.Pixel{R: 4, G: 4, B: 4, A: 4}
	}
	for _, l := range [][]api.Pixel{g.Picture().P, g.Picture().P, h.Picture().P, stamped.Picture().P} {
		l = l[:cap(l)]
		for i := range l {
			l[i] = api.Pixel{R: 2, G: 2, B: 2, A: 2}
		}
	}
	changed, _ := Changed(g, h)
	for i := range changed[:cap(changed)] {
		changed[:cap(changed)][i] = api.Rect{X: 99, Y: 99, W: 99, H: 99}
	}
	isOf(t, "the first one", g, want)
	isOf(t, "a stamped one", stamped, asStamped)
	if again, _ := Changed(g, h); fmt.Sprint(again) != "[{0 0 16 16}]" {
		t.Error(again)
	}
}

// No two grids hold one list, also of tiles that did not change.
func TestNoSharedTiles(t *testing.T) {
	m := mixer(13)
	g := gridOf(t, m.picture(40, 40))
	filled, _ := g.Fill(api.Rect{W: 1, H: 1}, api.Pixel{R: 1})
	same, _ := g.Fill(api.Rect{}, api.Pixel{R: 1})
	stamped, _ := g.Stamp(colored(2, 2, api.Pixel{R: 1}), 0, 0, 0)
	held := map[*api.Pixel]int{}
	for i, x := range []*Grid{g, filled, same, stamped} {
		for _, a := range x.tiles {
			if n, ok := held[&a.pixels[0]]; ok {
				t.Errorf("grids %d and %d share %v", n, i, a.part)
			}
			held[&a.pixels[0]] = i
		}
	}
}
