package colors

import (
	"fmt"
	"math"
	"slices"
	"testing"

	"layercake/api"
)

// mixer makes mixed numbers, the same ones at each run.
type mixer uint64

func (m *mixer) below(n int) int {
	*m = *m*6364136223846793005 + 1442695040888963407
	return int(*m>>33) % n
}

// between two numbers, both of them among it.
func (m *mixer) between(from, to int) int { return from + m.below(to-from+1) }

// part of a pixel: less than so much, or at the edges.
func (m *mixer) part(below int) uint8 {
	return [...]uint8{0, 255, uint8(m.below(below)), uint8(m.below(below)), uint8(m.below(below))}[m.below(5)]
}

func (m *mixer) pixel(below int) api.Pixel {
	return api.Pixel{R: m.part(below), G: m.part(below), B: m.part(below), A: m.part(below)}
}

func (m *mixer) pixels(many, below int) []api.Pixel {
	var l []api.Pixel
	for range many {
		l = append(l, m.pixel(below))
	}
	return l
}

// picture of up to so many unlike pixels, some of them used more often.
func (m *mixer) picture(wide, high, unlike, below int) api.Picture {
	l := m.pixels(unlike, below)
	p := api.Picture{Wide: wide, High: high}
	for range wide * high {
		p.P = append(p.P, l[m.below(m.between(1, unlike))])
	}
	return p
}

// small: of few pixels, with few or many unlike ones, near to each other or not.
func (m *mixer) small() api.Picture {
	return m.picture(m.between(1, 9), m.between(1, 9), m.between(1, 40), []int{2, 3, 8, 256}[m.below(4)])
}

func row(l ...api.Pixel) api.Picture { return api.Picture{Wide: len(l), High: 1, P: l} }

func reds(l ...uint8) []api.Pixel {
	var out []api.Pixel
	for _, n := range l {
		out = append(out, api.Pixel{R: n})
	}
	return out
}

// unlikes: a full picture of pixels of which all are unlike.
func unlikes() api.Picture {
	p := api.Picture{Wide: 256, High: 256}
	for i := range 256 * 256 {
		p.P = append(p.P, api.Pixel{R: uint8(i), G: uint8(i >> 8), B: uint8(i * 7), A: 255 - uint8(i>>4)})
	}
	return p
}

// manyOf: a picture of 257 pixels or more, of just so many unlike ones.
func manyOf(unlike int) api.Picture {
	p := api.Picture{Wide: 20, High: 20}
	for i := range 400 {
		n := i % unlike
		p.P = append(p.P, api.Pixel{R: uint8(n), G: uint8(n >> 8), A: 9})
	}
	return p
}

func short(l []api.Pixel) string {
	if len(l) > 40 {
		return fmt.Sprintf("%d pixels", len(l))
	}
	return fmt.Sprint(l)
}

// is: a list as wanted, and no error.
func is[T comparable](t *testing.T, name any, got []T, err error, want []T) {
	t.Helper()
	if err != nil || !slices.Equal(got, want) {
		t.Errorf("%v: %v, %v, want %v", name, got, err, want)
	}
}

func farOf(t *testing.T, p api.Picture, palette []api.Pixel) int {
	t.Helper()
	n, err := Far(p, palette)
	if err != nil {
		t.Fatalf("%s: %v", short(palette), err)
	}
	return n
}

func betterOf(t *testing.T, p api.Picture, palette []api.Pixel) []api.Pixel {
	t.Helper()
	l, err := Better(p, palette)
	if err != nil {
		t.Fatalf("%s: %v", short(palette), err)
	}
	return l
}

func reducedOf(t *testing.T, p api.Picture, most int) []api.Pixel {
	t.Helper()
	l, err := Reduce(p, most)
	if err != nil || len(l) < 1 || len(l) > most {
		t.Fatalf("%d: %s, %v", most, short(l), err)
	}
	return l
}

// Errors

func notRight() []api.Picture {
	l := []api.Picture{{}, {Wide: 1, High: 1}, {P: []api.Pixel{{}}}, {Wide: 1 << 32, High: 1 << 32}, {Wide: math.MinInt, High: 2}, {Wide: -1, High: -1, P: make([]api.Pixel, 1)}}
	for _, c := range [][3]int{{2, 2, 3}, {2, 2, 5}, {257, 1, 257}, {1, 257, 257}, {0, 4, 0}, {4, 0, 0}, {-2, 2, 4}, {2, -2, 4}, {256, 256, 65535}, {256, 256, 65537}, {math.MaxInt, math.MaxInt, 1}} {
		l = append(l, api.Picture{Wide: c[0], High: c[1], P: make([]api.Pixel, c[2])})
	}
	return l
}

// told by one call: how much it answered beside an error.
type told struct {
	much int
	err  error
}

func listed[T any](l []T, err error) told { return told{len(l), err} }

// withMost: all that take how many colors there may be.
func withMost(p api.Picture, most int) map[string]told {
	palette, numbers, err := Exact(p, most)
	return map[string]told{"Exact": {len(palette) + len(numbers), err}, "Reduce": listed(Reduce(p, most))}
}

// withPalette: all that take a palette.
func withPalette(p api.Picture, palette []api.Pixel) map[string]told {
	far, err := Far(p, palette)
	return map[string]told{"Map": listed(Map(p, palette)), "Far": {far, err}, "Better": listed(Better(p, palette))}
}

// fail: each with just that error, bare, and nothing else.
func fail(t *testing.T, name any, calls map[string]told, want error) {
	t.Helper()
	for call, got := range calls {
		if got.err != want || got.much != 0 {
			t.Errorf("%s, %v: %d, %#v, want the bare %v", call, name, got.much, got.err, want)
		}
	}
}

func pass(t *testing.T, name any, calls map[string]told) {
	t.Helper()
	for call, got := range calls {
		if got.err != nil {
			t.Errorf("%s, %v: %v", call, name, got.err)
		}
	}
}

// P160, P161, P162: what is not right is told ahead of all else.
func TestNotRight(t *testing.T) {
	for _, p := range notRight() {
		name := fmt.Sprintf("%d by %d with %d", p.Wide, p.High, len(p.P))
		fail(t, name, map[string]told{"Count": listed(Count(p))}, api.ErrShape)
		for _, most := range []int{1, 2, 256, 0, -1, 257, math.MinInt, math.MaxInt} {
			fail(t, name, withMost(p, most), api.ErrShape)
		}
		for _, many := range []int{0, 1, 256, 257} {
			fail(t, name, withPalette(p, make([]api.Pixel, many)), api.ErrShape)
		}
	}
}

func TestMost(t *testing.T) {
	one := row(reds(7)...)
	for most := -600; most <= 600; most++ {
		if most >= 1 && most <= 256 {
			pass(t, most, withMost(one, most))
		} else {
			fail(t, most, withMost(one, most), api.ErrBound)
		}
	}
	for _, most := range []int{1 << 31, -1 << 31, 1 << 32, 1<<32 + 1, -1 << 32, 1<<32 + 256, math.MaxInt, math.MinInt, math.MaxInt - 1, math.MinInt + 1} {
		fail(t, most, withMost(one, most), api.ErrBound)
	}
	// A bound that is none is told ahead of too many colors.
	for _, most := range []int{0, -1, 257, 258} {
		fail(t, most, withMost(manyOf(300), most), api.ErrBound)
	}
}

func TestPalettes(t *testing.T) {
	one := row(reds(7)...)
	fail(t, "nil", withPalette(one, nil), api.ErrBound)
	for many := range 600 {
		palette := make([]api.Pixel, many)
		if many >= 1 && many <= 256 {
			pass(t, many, withPalette(one, palette))
		} else {
			fail(t, many, withPalette(one, palette), api.ErrBound)
		}
	}
	// Room behind the colors does not count.
	room := make([]api.Pixel, 300)
	fail(t, "room", withPalette(one, room[:0]), api.ErrBound)
	pass(t, "room", withPalette(one, room[:256]))
}

// P160

func TestCount(t *testing.T) {
	a, b, c := api.Pixel{R: 9}, api.Pixel{R: 1, A: 255}, api.Pixel{}
	for _, x := range []struct {
		p    api.Picture
		want []Use
	}{
		{row(a), []Use{{a, 1}}},
		{row(a, a, a), []Use{{a, 3}}},
		{row(c, b, a), []Use{{c, 1}, {b, 1}, {a, 1}}},
		{row(b, a, a, c, a), []Use{{b, 1}, {a, 3}, {c, 1}}},
		{api.Picture{Wide: 2, High: 2, P: []api.Pixel{a, b, b, a}}, []Use{{a, 2}, {b, 2}}},
	} {
		got, err := Count(x.p)
		is(t, x.p, got, err, x.want)
	}
}

// Each part tells pixels apart, also of those that cover nothing.
func TestEachPartCounts(t *testing.T) {
	l := []api.Pixel{{}, {R: 1}, {G: 1}, {B: 1}, {A: 1}, {R: 255}, {G: 255}, {B: 255}, {A: 255}, {R: 1, G: 1}, {G: 1, B: 1}, {B: 1, A: 1}}
	got, err := Count(row(l...))
	if err != nil || len(got) != len(l) {
		t.Errorf("%v, %v", got, err)
	}
	palette, _, err := Exact(row(l...), len(l))
	is(t, "exact", palette, err, l)
}

func TestCountAgainstSlowWay(t *testing.T) {
	m := mixer(1)
	for i := range 3000 {
		p := m.small()
		got, err := Count(p)
		is(t, i, got, err, slowCount(p))
	}
	unlike := unlikes()
	got, err := Count(unlike)
	if err != nil || len(got) != 65536 {
		t.Fatalf("%d, %v", len(got), err)
	}
	for i, u := range got {
		if u != (Use{unlike.P[i], 1}) {
			t.Fatalf("%d: %v", i, u)
		}
	}
	full := api.Picture{Wide: 256, High: 256, P: make([]api.Pixel, 65536)}
	got, err = Count(full)
	is(t, "full", got, err, []Use{{api.Pixel{}, 65536}})
}

func TestExactAgainstSlowWay(t *testing.T) {
	m := mixer(2)
	for i := range 3000 {
		p := m.small()
		wantPalette, wantNumbers := slowExact(p)
		unlike := len(wantPalette)
		for _, most := range []int{unlike, unlike + 1, 256} {
			palette, numbers, err := Exact(p, most)
			is(t, i, palette, err, wantPalette)
			is(t, i, numbers, err, wantNumbers)
		}
		for most := 1; most < unlike; most++ {
			fail(t, i, map[string]told{"Exact": exact(p, most)}, api.ErrColors)
		}
	}
}

func exact(p api.Picture, most int) told { return withMost(p, most)["Exact"] }

func TestExactAtTheBound(t *testing.T) {
	for unlike := 250; unlike <= 260; unlike++ {
		p := manyOf(unlike)
		for most := 245; most <= 256; most++ {
			palette, numbers, err := Exact(p, most)
			if unlike > most {
				fail(t, most, map[string]told{"Exact": {len(palette) + len(numbers), err}}, api.ErrColors)
				continue
			}
			is(t, most, palette, err, p.P[:unlike])
			for i, n := range numbers {
				if n != i%unlike {
					t.Fatalf("%d unlike, pixel %d: %d", unlike, i, n)
				}
			}
		}
	}
	fail(t, "all unlike", map[string]told{"Exact": exact(unlikes(), 256)}, api.ErrColors)
}

// P161

func TestMap(t *testing.T) {
	for _, x := range []struct {
		name       string
		p, palette []api.Pixel
		want       []int
		far        int
	}{
		{"one color", reds(0, 255, 3), reds(3), []int{0, 0, 0}, 9 + 252*252},
		{"the first of those as far", reds(5), reds(0, 10), []int{0}, 25},
		{"the first of those as far, turned", reds(5), reds(10, 0), []int{0}, 25},
		{"the first of those as far, a further one ahead", reds(5), reds(20, 10, 0), []int{1}, 25},
		{"the first of three", reds(7, 7), reds(90, 8, 6, 8), []int{1, 1}, 2},
		{"like colors", reds(4, 9), reds(4, 4, 9, 9), []int{0, 2}, 0},
		{"the last one", reds(200), reds(0, 50, 100, 199), []int{3}, 1},
		{"squares count, not steps", []api.Pixel{{}}, []api.Pixel{{R: 4}, {R: 2, G: 2, B: 2}}, []int{1}, 12},
		{"what covers counts", []api.Pixel{{A: 255}}, []api.Pixel{{}, {R: 100, A: 255}}, []int{1}, 10000},
		{"colors that cover nothing count", []api.Pixel{{R: 200}}, []api.Pixel{{}, {R: 190}}, []int{1}, 100},
		{"as far in another part", []api.Pixel{{R: 9, G: 9, B: 9, A: 9}}, []api.Pixel{{R: 9, G: 9, B: 9, A: 6}, {R: 6, G: 9, B: 9, A: 9}}, []int{0}, 9},
		{"furthest", []api.Pixel{{}}, []api.Pixel{{R: 255, G: 255, B: 255, A: 255}}, []int{0}, 260100},
		{"furthest, turned", []api.Pixel{{R: 255, G: 255, B: 255, A: 255}}, []api.Pixel{{}}, []int{0}, 260100},
	} {
		got, err := Map(row(x.p...), x.palette)
		is(t, x.name, got, err, x.want)
		if n := farOf(t, row(x.p...), x.palette); n != x.far {
			t.Errorf("%s: far %d, want %d", x.name, n, x.far)
		}
	}
}

func TestMapAgainstSlowWay(t *testing.T) {
	m := mixer(3)
	for i := range 5000 {
		p := m.small()
		palette := m.pixels(m.between(1, 12), []int{2, 4, 256}[m.below(3)])
		want, far := slowMap(p, palette)
		got, err := Map(p, palette)
		is(t, i, got, err, want)
		if n := farOf(t, p, palette); n != far {
			t.Errorf("%d: far %d, want %d", i, n, far)
		}
	}
	for _, many := range []int{255, 256} {
		p, palette := m.picture(70, 30, 2000, 256), m.pixels(many, 256)
		want, far := slowMap(p, palette)
		got, err := Map(p, palette)
		is(t, many, got, err, want)
		if n := farOf(t, p, palette); n != far {
			t.Errorf("%d: far %d, want %d", many, n, far)
		}
	}
}

// Every two numbers, in every part.
func TestApart(t *testing.T) {
	for a := range 256 {
		for b := range 256 {
			x, y := uint8(a), uint8(b)
			want := (a - b) * (a - b)
			for _, c := range [][2]api.Pixel{{{R: x}, {R: y}}, {{G: x}, {G: y}}, {{B: x}, {B: y}}, {{A: x}, {A: y}}} {
				if got := farOf(t, row(c[0]), c[1:]); got != want {
					t.Fatalf("%v: %d, want %d", c, got, want)
				}
			}
		}
	}
}

func TestFarOfFullPictures(t *testing.T) {
	p := api.Picture{Wide: 256, High: 256, P: make([]api.Pixel, 65536)}
	if n := farOf(t, p, []api.Pixel{{R: 255, G: 255, B: 255, A: 255}}); n != 65536*260100 {
		t.Error(n)
	}
	if n := farOf(t, p, []api.Pixel{{R: 255, G: 255, B: 255, A: 255}, {}}); n != 0 {
		t.Error(n)
	}
}

// P162

func TestBetter(t *testing.T) {
	for _, x := range []struct {
		name             string
		p, palette, want []api.Pixel
	}{
		{"the mean", reds(10, 20, 30), reds(0), reds(20)},
		{"halves up", reds(0, 1), reds(9), reds(1)},
		{"halves up, near the top", reds(254, 255), reds(9), reds(255)},
		{"less than a half down", reds(0, 0, 1), reds(9), reds(0)},
		{"more than a half up", reds(0, 1, 1), reds(9), reds(1)},
		{"the edges", reds(255, 255), reds(9), reds(255)},
		{"often used ones weigh more", reds(0, 0, 0, 100), reds(9), reds(25)},
		{"none stays", reds(10, 20), reds(200, 0, 255), reds(200, 15, 255)},
		{"the second of like ones stays", reds(10, 20), reds(9, 9), reds(15, 9)},
		{"the first of those as far", reds(5, 4), reds(0, 10), reds(5, 10)},
		{"each part alone", []api.Pixel{{R: 1, G: 2, B: 3, A: 4}, {R: 2, G: 4, B: 6, A: 8}}, reds(0), []api.Pixel{{R: 2, G: 3, B: 5, A: 6}}},
		{"what covers nothing counts", []api.Pixel{{R: 200}, {R: 100, A: 255}}, reds(0), []api.Pixel{{R: 150, A: 128}}},
	} {
		got, err := Better(row(x.p...), x.palette)
		is(t, x.name, got, err, x.want)
	}
}

func TestBetterAgainstSlowWay(t *testing.T) {
	m := mixer(4)
	for i := range 4000 {
		p := m.small()
		palette := m.pixels(m.between(1, 12), []int{2, 4, 256}[m.below(3)])
		got, err := Better(p, palette)
		is(t, i, got, err, slowBetter(p, palette))
	}
	p, palette := m.picture(70, 30, 2000, 256), m.pixels(256, 256)
	got, err := Better(p, palette)
	is(t, "many", got, err, slowBetter(p, palette))
	full := unlikes()
	got, err = Better(full, []api.Pixel{{}})
	is(t, "full", got, err, slowBetter(full, []api.Pixel{{}}))
}

// Every mean of up to so many pixels of two neighboring numbers.
func TestMeans(t *testing.T) {
	for many := 1; many <= 200; many++ {
		for high := range many + 1 {
			l := slices.Concat(slices.Repeat(reds(7), many-high), slices.Repeat(reds(8), high))
			want := uint8(7)
			if 2*high >= many {
				want = 8
			}
			got, err := Better(row(l...), reds(0))
			is(t, many, got, err, reds(want))
		}
	}
}

func TestMostUsed(t *testing.T) {
	m := mixer(5)
	for i := range 3000 {
		p := m.small()
		uses, err := Count(p)
		before := slices.Clone(uses)
		most := m.between(1, 45)
		is(t, i, mostUsed(uses, most), err, slowMostUsed(p, most))
		is(t, i, uses, err, before)
	}
}

// A picture that has no more colors than are wanted keeps all of them.
func TestReduceOfFew(t *testing.T) {
	m := mixer(6)
	for i := range 2000 {
		p := m.small()
		unlike := len(slowCount(p))
		for _, most := range []int{unlike, unlike + 1, 255, 256} {
			if _, far := slowMap(p, reducedOf(t, p, most)); far != 0 {
				t.Errorf("%d: %d of %d colors: far %d", i, most, unlike, far)
			}
		}
	}
	for unlike := 1; unlike <= 256; unlike++ {
		if n := farOf(t, manyOf(unlike), reducedOf(t, manyOf(unlike), unlike)); n != 0 {
			t.Errorf("%d: far %d", unlike, n)
		}
	}
	if n := farOf(t, manyOf(257), reducedOf(t, manyOf(257), 256)); n == 0 {
		t.Error("257 colors are told by 256")
	}
}

func noFurtherThanMostUsed(t *testing.T, name any, p api.Picture, most int) {
	t.Helper()
	got := reducedOf(t, p, most)
	_, far := slowMap(p, got)
	_, bound := slowMap(p, slowBetter(p, slowMostUsed(p, most)))
	if far > bound {
		t.Errorf("%v: %d colors: far %d, want at most %d", name, most, far, bound)
	}
	if n := farOf(t, p, got); n != far {
		t.Errorf("%v: far %d, want %d", name, n, far)
	}
}

func TestReduceAgainstMostUsed(t *testing.T) {
	m := mixer(7)
	for i := range 2000 {
		p := m.small()
		for most := 1; most <= 12; most++ {
			noFurtherThanMostUsed(t, i, p, most)
		}
	}
	for _, most := range []int{1, 2, 100, 255, 256} {
		noFurtherThanMostUsed(t, "many", m.picture(60, 50, 2500, 256), most)
	}
}

// Where one round of it does not end, it goes on.
func TestReduceGoesOn(t *testing.T) {
	p := row(reds(10, 40, 10, 41, 200, 10)...)
	got, err := Reduce(p, 3)
	is(t, "three", got, err, reds(10, 41, 200))
	m := mixer(8)
	for i := range 300 {
		p := m.small()
		got := reducedOf(t, p, m.between(1, 8))
		if far, still := farOf(t, p, got), farOf(t, p, betterOf(t, p, got)); still < far {
			t.Errorf("%d: far %d, can be %d", i, far, still)
		}
	}
}

func TestReduceOne(t *testing.T) {
	p := row(reds(0, 0, 100, 101, 200)...)
	got, err := Reduce(p, 1)
	is(t, "one", got, err, reds(80))
}

// P1: the effort is bound, also of full pictures.
func TestReduceOfFullPictures(t *testing.T) {
	m := mixer(9)
	noise := api.Picture{Wide: 256, High: 256}
	for range 65536 {
		noise.P = append(noise.P, api.Pixel{R: uint8(m.below(256)), G: uint8(m.below(256)), B: uint8(m.below(256)), A: uint8(m.below(256))})
	}
	for name, p := range map[string]api.Picture{"noise": noise, "unlike": unlikes()} {
		for _, most := range []int{1, 16, 256} {
			uses, _ := Count(p)
			bound := farOf(t, p, betterOf(t, p, mostUsed(uses, most)))
			if far := farOf(t, p, reducedOf(t, p, most)); far > bound {
				t.Errorf("%s, %d: far %d, want at most %d", name, most, far, bound)
			}
		}
	}
}

// The fewest rounds that the effort gives are not none.
func TestEffort(t *testing.T) {
	if effort/(api.MaxSide*api.MaxSide*api.MaxColors) < 1 {
		t.Error("no round")
	}
}

// P163

func TestBetterIsNeverFurther(t *testing.T) {
	m := mixer(10)
	for i := range 5000 {
		p := m.small()
		palette := m.pixels(m.between(1, 12), []int{2, 4, 256}[m.below(3)])
		for range 4 {
			better := betterOf(t, p, palette)
			if was, far := farOf(t, p, palette), farOf(t, p, better); far > was {
				t.Errorf("%d: far %d, was %d", i, far, was)
			}
			palette = better
		}
	}
}

func TestColorMoreIsNeverFurther(t *testing.T) {
	m := mixer(11)
	for i := range 3000 {
		p := m.small()
		palette := m.pixels(m.between(1, 12), []int{2, 4, 256}[m.below(3)])
		more := slices.Insert(slices.Clone(palette), m.below(len(palette)+1), m.pixel(256))
		if was, far := farOf(t, p, palette), farOf(t, p, more); far > was {
			t.Errorf("%d: far %d, was %d", i, far, was)
		}
		was, err := Map(p, palette)
		now, bad := Map(p, more)
		if err != nil || bad != nil {
			t.Fatal(err, bad)
		}
		for at, c := range p.P {
			if slowApart(c, more[now[at]]) > slowApart(c, palette[was[at]]) {
				t.Errorf("%d: pixel %d is further", i, at)
			}
		}
	}
}

// P2, P3, P4

// roomy: a list with room behind it, that is neither read nor written.
func roomy(l []api.Pixel) (list, room []api.Pixel) {
	all := slices.Concat(l, slices.Repeat([]api.Pixel{{R: 77, G: 66, B: 55, A: 44}}, 5))
	return all[:len(l)], all[len(l):]
}

func TestOnlyRead(t *testing.T) {
	m := mixer(12)
	for i := range 300 {
		first := m.small()
		firstColors := m.pixels(m.between(1, 12), 256)
		most := m.between(1, 12)
		pixels, behind := roomy(first.P)
		palette, beyond := roomy(firstColors)
		p := api.Picture{Wide: first.Wide, High: first.High, P: pixels}
		one, two := all(t, p, palette, most), all(t, first, firstColors, most)
		if one != two {
			t.Errorf("%d: %s, and %s", i, one, two)
		}
		if !slices.Equal(pixels, first.P) || !slices.Equal(palette, firstColors) {
			t.Errorf("%d: what was handed over is another one", i)
		}
		for _, c := range slices.Concat(behind, beyond) {
			if c != (api.Pixel{R: 77, G: 66, B: 55, A: 44}) {
				t.Errorf("%d: room is written", i)
			}
		}
	}
}

// all answers as a text; each is spoilt behind it, which nobody else may see.
func all(t *testing.T, p api.Picture, palette []api.Pixel, most int) string {
	t.Helper()
	uses, e1 := Count(p)
	exact, numbers, e2 := Exact(p, api.MaxColors)
	near, e3 := Map(p, palette)
	better, e4 := Better(p, palette)
	fewer, e5 := Reduce(p, most)
	s := fmt.Sprint(uses, exact, numbers, near, better, fewer, e1, e2, e3, e4, e5)
	for _, l := range [][]api.Pixel{exact, better, fewer} {
		for i := range l[:cap(l)] {
			l[:cap(l)][i] = api.Pixel{R: 1, G: 2, B: 3, A: 4}
		}
	}
	for _, l := range [][]int{numbers, near} {
		for i := range l[:cap(l)] {
			l[:cap(l)][i] = -1
		}
	}
	clear(uses[:cap(uses)])
	return s
}

// A palette that can't be made better is answered as new memory, too.
func TestNewMemory(t *testing.T) {
	p, palette := row(reds(3, 9)...), reds(3, 9, 200)
	for range 2 {
		got, err := Better(p, palette)
		is(t, "better", got, err, reds(3, 9, 200))
		clear(got)
		got, err = Reduce(p, 5)
		is(t, "reduce", got, err, reds(3, 9))
		clear(got)
	}
	is(t, "palette", palette, nil, reds(3, 9, 200))
	is(t, "picture", p.P, nil, reds(3, 9))
}
