package pixel

import (
	"math"
	"slices"
	"strings"
	"testing"

	"layercake/api"
)

// mixer makes mixed numbers, the same ones at each run.
type mixer uint64

func (m *mixer) below(n int) int {
	*m = *m*6364136223846793005 + 1442695040888963407
	return int(*m>>33) % n
}

// edge: now and then one of those that are next to a bound.
func (m *mixer) edge() uint8 {
	if l := edges(); m.below(3) == 0 {
		return l[m.below(len(l))]
	}
	return uint8(m.below(256))
}

func (m *mixer) pixel() api.Pixel { return px(m.edge(), m.edge(), m.edge(), m.edge()) }

func edges() []uint8 { return []uint8{0, 1, 2, 127, 128, 129, 253, 254, 255} }

func px(r, g, b, a uint8) api.Pixel { return api.Pixel{R: r, G: g, B: b, A: a} }

func grey(n, a uint8) api.Pixel { return px(n, n, n, a) }

func over(t *testing.T, mode int, top, below api.Pixel) api.Pixel {
	t.Helper()
	p, err := Over(mode, top, below)
	if err != nil {
		t.Fatalf("Over(%d, %v, %v): %v", mode, top, below, err)
	}
	return p
}

func lies(t *testing.T, mode int, top, below, want api.Pixel) {
	t.Helper()
	if got, err := Over(mode, top, below); got != want || err != nil {
		t.Errorf("Over(%d, %v, %v): %v, %v, want %v", mode, top, below, got, err, want)
	}
}

func fades(t *testing.T, p api.Pixel, opacity int, want api.Pixel) {
	t.Helper()
	if got, err := Fade(p, opacity); got != want || err != nil {
		t.Errorf("Fade(%v, %d): %v, %v, want %v", p, opacity, got, err, want)
	}
}

func mixes(t *testing.T, l []api.Pixel, want api.Pixel) {
	t.Helper()
	if got := Mix(l); got != want {
		t.Errorf("Mix(%v): %v, want %v", l, got, want)
	}
}

func reads(t *testing.T, s string, want api.Pixel) {
	t.Helper()
	if got, err := Read(s); got != want || err != nil {
		t.Errorf("Read(%q): %v, %v, want %v", s, got, err, want)
	}
}

func unread(t *testing.T, s string) {
	t.Helper()
	if got, err := Read(s); got != (api.Pixel{}) || err != api.ErrText {
		t.Errorf("Read(%q): %v, %v, want ErrText", s, got, err)
	}
}

// P110

func TestOverByHand(t *testing.T) {
	for _, c := range []struct {
		mode             int
		top, below, want api.Pixel
	}{
		// Half of white over black is grey.
		{0, px(255, 255, 255, 128), px(0, 0, 0, 255), px(128, 128, 128, 255)},
		{0, px(255, 0, 0, 128), px(0, 0, 255, 255), px(128, 0, 127, 255)},
		{0, px(1, 2, 3, 255), px(4, 5, 6, 255), px(1, 2, 3, 255)},
		// It covers 160.8; the colors are (25500 s + 15500 d) / 41000.
		{0, px(100, 0, 255, 100), px(200, 255, 0, 100), px(138, 96, 159, 161)},
		// 102 of 255, and 170 of the other 153 of 255, are as much: halves, that go up.
		{0, px(10, 11, 0, 102), px(11, 10, 1, 170), px(11, 11, 1, 204)},
		{0, px(254, 255, 0, 102), px(255, 254, 255, 170), px(255, 255, 128, 204)},
		{0, px(10, 11, 0, 30), px(11, 10, 1, 34), px(11, 11, 1, 60)},
		// 100 and 200 of 255: 78.4, 221.6; the lesser, the greater, how far apart.
		{1, px(100, 200, 255, 255), px(200, 100, 7, 255), px(78, 78, 7, 255)},
		{2, px(100, 200, 255, 255), px(200, 100, 7, 255), px(222, 222, 255, 255)},
		{3, px(100, 200, 255, 255), px(200, 100, 7, 255), px(100, 100, 7, 255)},
		{4, px(100, 200, 255, 255), px(200, 100, 7, 255), px(200, 200, 255, 255)},
		{5, px(100, 200, 255, 255), px(200, 100, 7, 255), px(100, 100, 248, 255)},
		{1, px(255, 0, 0, 255), px(255, 255, 0, 255), px(255, 0, 0, 255)},
		{2, px(255, 0, 0, 255), px(255, 255, 0, 255), px(255, 255, 0, 255)},
		{3, px(255, 0, 0, 255), px(255, 255, 0, 255), px(255, 0, 0, 255)},
		{4, px(255, 0, 0, 255), px(255, 255, 0, 255), px(255, 255, 0, 255)},
		{5, px(255, 0, 0, 255), px(255, 255, 0, 255), px(0, 255, 0, 255)},
		// Parts of each: alone 1/6 of the top and 1/2 of the one below, and where both are 1/3 of m.
		{0, px(90, 0, 0, 102), px(0, 90, 0, 170), px(45, 45, 0, 204)},
		{1, px(120, 60, 0, 102), px(60, 120, 0, 170), px(59, 79, 0, 204)},
		{2, px(120, 60, 0, 102), px(60, 120, 0, 170), px(101, 121, 0, 204)},
		{3, px(120, 60, 0, 102), px(60, 120, 0, 170), px(70, 90, 0, 204)},
		{4, px(120, 60, 0, 102), px(60, 120, 0, 170), px(90, 110, 0, 204)},
		{5, px(120, 60, 0, 102), px(60, 120, 0, 170), px(70, 90, 0, 204)},
		// What covers nothing has no color either.
		{0, px(9, 8, 7, 0), px(6, 5, 4, 0), api.Pixel{}},
		{5, px(9, 8, 7, 0), px(6, 5, 4, 0), api.Pixel{}},
		// The least that covers.
		{1, px(255, 0, 7, 1), px(0, 255, 9, 0), px(255, 0, 7, 1)},
		{1, px(255, 0, 7, 0), px(0, 255, 9, 1), px(0, 255, 9, 1)},
		{0, px(255, 0, 7, 1), px(0, 255, 9, 1), px(128, 127, 8, 2)},
	} {
		lies(t, c.mode, c.top, c.below, c.want)
		if got := slowOver(c.mode, c.top, c.below); got != c.want {
			t.Errorf("the slow one: %d, %v over %v: %v, want %v", c.mode, c.top, c.below, got, c.want)
		}
	}
}

func TestOverIsAsTold(t *testing.T) {
	m := mixer(1)
	for range 8000 {
		top, below := m.pixel(), m.pixel()
		for mode := range 6 {
			lies(t, mode, top, below, slowOver(mode, top, below))
		}
	}
}

// wanted m of a mode, by the document.
func wanted(mode int, s, d int64) int64 {
	switch mode {
	case 0:
		return 255 * s
	case 1:
		return s * d
	case 2:
		return 255*(s+d) - s*d
	case 3, 4:
		if (s < d) == (mode == 3) {
			return 255 * s
		}
		return 255 * d
	}
	if s < d {
		return 255 * (d - s)
	}
	return 255 * (s - d)
}

// isNearest: got is n / by, rounded; half says that n / by lies just between two numbers.
func isNearest(got uint8, n, by int64) (ok, half bool) {
	low := (2*int64(got) - 1) * by
	return low <= 2*n && 2*n < low+2*by, low == 2*n
}

// near: an answer of Over by its fractions; it counts halves.
func near(t *testing.T, mode int, top, below api.Pixel, halves *int) {
	t.Helper()
	got := over(t, mode, top, below)
	a, b := int64(top.A), int64(below.A)
	covers := 255*a + b*(255-a)
	if covers == 0 {
		if got != (api.Pixel{}) {
			t.Errorf("Over(%d, %v, %v): %v", mode, top, below, got)
		}
		return
	}
	ok, _ := isNearest(got.A, covers, 255)
	for _, c := range [][3]uint8{{got.R, top.R, below.R}, {got.G, top.G, below.G}, {got.B, top.B, below.B}} {
		s, d := int64(c[1]), int64(c[2])
		n := 255*(a*(255-b)*s+b*(255-a)*d) + a*b*wanted(mode, s, d)
		right, half := isNearest(c[0], n, 255*covers)
		ok = ok && right
		if half {
			*halves++
		}
	}
	if !ok {
		t.Fatalf("Over(%d, %v, %v): %v", mode, top, below, got)
	}
}

// Every two colors: of pixels that cover all, and of such that cover a part.
func TestEveryTwoColors(t *testing.T) {
	halves := 0
	for mode := range 6 {
		for _, a := range [][2]uint8{{255, 255}, {102, 170}, {30, 34}, {1, 1}, {254, 254}, {128, 255}, {255, 1}, {200, 3}} {
			for s := range 256 {
				for d := range 256 {
					near(t, mode, px(uint8(s), uint8(d), 0, a[0]), px(uint8(d), uint8(s), uint8(s), a[1]), &halves)
				}
			}
		}
	}
	if halves == 0 {
		t.Error("no halves were met")
	}
}

// Every two of how much they cover.
func TestEveryTwoCovers(t *testing.T) {
	halves := 0
	for mode := range 6 {
		for a := range 256 {
			for b := range 256 {
				for _, c := range [][6]uint8{{0, 255, 255, 255, 0, 255}, {0, 1, 128, 1, 0, 127}, {200, 100, 17, 100, 200, 34}, {254, 255, 3, 255, 254, 250}} {
					near(t, mode, px(c[0], c[1], c[2], uint8(a)), px(c[3], c[4], c[5], uint8(b)), &halves)
				}
			}
		}
	}
	if halves == 0 {
		t.Error("no halves were met")
	}
}

// Each color by itself, each by the color of its name.
func TestColorsStandAlone(t *testing.T) {
	m := mixer(2)
	for range 500 {
		top, below := m.pixel(), m.pixel()
		for mode := range 6 {
			got := over(t, mode, top, below)
			r := over(t, mode, grey(top.R, top.A), grey(below.R, below.A))
			g := over(t, mode, grey(top.G, top.A), grey(below.G, below.A))
			b := over(t, mode, grey(top.B, top.A), grey(below.B, below.A))
			if want := px(r.R, g.G, b.B, r.A); got != want {
				t.Errorf("Over(%d, %v, %v): %v, want %v", mode, top, below, got, want)
			}
		}
	}
}

func TestNoMode(t *testing.T) {
	for _, mode := range []int{-1, 6, 7, 255, 256, 1 << 32, -1 << 32, math.MaxInt, math.MinInt} {
		for _, p := range []api.Pixel{{}, px(1, 2, 3, 4), px(255, 255, 255, 255)} {
			if got, err := Over(mode, p, p); got != (api.Pixel{}) || err != api.ErrBound {
				t.Errorf("Over(%d, ..): %v, %v", mode, got, err)
			}
		}
	}
}

// P111

func TestFadeByHand(t *testing.T) {
	for _, c := range []struct {
		p       api.Pixel
		opacity int
		want    api.Pixel
	}{
		{px(1, 2, 3, 255), 255, px(1, 2, 3, 255)},
		{px(1, 2, 3, 255), 7, px(1, 2, 3, 7)},
		{px(1, 2, 3, 7), 255, px(1, 2, 3, 7)},
		{px(5, 0, 9, 200), 128, px(5, 0, 9, 100)},
		// 0.498 and 0.502 of one.
		{px(5, 6, 7, 1), 127, api.Pixel{}},
		{px(5, 6, 7, 1), 128, px(5, 6, 7, 1)},
		{px(5, 6, 7, 255), 0, api.Pixel{}},
		{px(5, 6, 7, 0), 255, api.Pixel{}},
		{px(5, 6, 7, 0), 0, api.Pixel{}},
	} {
		fades(t, c.p, c.opacity, c.want)
	}
}

func TestEveryFade(t *testing.T) {
	for a := range 256 {
		for opacity := range 256 {
			got, err := Fade(px(1, 2, 3, uint8(a)), opacity)
			if err != nil {
				t.Fatal(a, opacity, err)
			}
			if ok, _ := isNearest(got.A, int64(a*opacity), 255); !ok {
				t.Errorf("%d of %d: %v", a, opacity, got)
			}
			if want := px(1, 2, 3, got.A); got.A > 0 && got != want || got.A == 0 && got != (api.Pixel{}) {
				t.Errorf("%d of %d: %v", a, opacity, got)
			}
		}
	}
}

func TestFadeIsAsTold(t *testing.T) {
	m := mixer(3)
	for range 1500 {
		p, opacity := m.pixel(), int(m.edge())
		fades(t, p, opacity, slowFade(p, opacity))
	}
}

func TestNoOpacity(t *testing.T) {
	for _, opacity := range []int{-1, 256, 257, 1 << 32, 1<<32 + 5, -1 << 32, math.MaxInt, math.MinInt} {
		for _, p := range []api.Pixel{{}, px(1, 2, 3, 4), px(255, 255, 255, 255)} {
			if got, err := Fade(p, opacity); got != (api.Pixel{}) || err != api.ErrBound {
				t.Errorf("Fade(%v, %d): %v, %v", p, opacity, got, err)
			}
		}
	}
}

func TestMixByHand(t *testing.T) {
	for _, c := range []struct {
		l    []api.Pixel
		want api.Pixel
	}{
		{nil, api.Pixel{}},
		{[]api.Pixel{}, api.Pixel{}},
		{[]api.Pixel{px(1, 2, 3, 4)}, px(1, 2, 3, 4)},
		{[]api.Pixel{px(1, 2, 3, 0)}, api.Pixel{}},
		{[]api.Pixel{px(1, 2, 3, 0), px(4, 5, 6, 0)}, api.Pixel{}},
		// Halves go up, of colors and of how much is covered.
		{[]api.Pixel{px(10, 254, 0, 255), px(11, 255, 1, 255)}, px(11, 255, 1, 255)},
		{[]api.Pixel{px(10, 0, 0, 254), px(10, 0, 0, 255)}, px(10, 0, 0, 255)},
		{[]api.Pixel{px(9, 0, 0, 1), px(7, 0, 0, 0)}, px(9, 0, 0, 1)},
		{[]api.Pixel{px(10, 0, 0, 255), px(20, 0, 0, 0), px(31, 0, 0, 255)}, px(21, 0, 0, 170)},
		// By how much each covers: 100 once and 10 twice of three.
		{[]api.Pixel{px(100, 0, 10, 50), px(10, 100, 100, 100)}, px(40, 67, 70, 75)},
		{[]api.Pixel{px(255, 0, 0, 1), px(0, 255, 0, 1), px(0, 0, 255, 1), px(0, 0, 0, 1)}, px(64, 64, 64, 1)},
		// Some covers, if so little that the mean is none: its colors stay.
		{[]api.Pixel{px(9, 8, 7, 1), {}, {}}, px(9, 8, 7, 0)},
	} {
		mixes(t, c.l, c.want)
		if got := slowMix(c.l); got != c.want {
			t.Errorf("the slow one: %v: %v, want %v", c.l, got, c.want)
		}
	}
}

func TestMixIsAsTold(t *testing.T) {
	m := mixer(4)
	for count := range 12 {
		for range 40 {
			var l []api.Pixel
			for range count {
				l = append(l, m.pixel())
			}
			mixes(t, l, slowMix(l))
		}
	}
}

// Two of each: a mean has a half now and then.
func TestEveryMixOfTwo(t *testing.T) {
	for a := range 256 {
		for b := range 256 {
			n := uint8((a + b + 1) / 2)
			mixes(t, []api.Pixel{px(uint8(a), uint8(b), 7, 255), px(uint8(b), uint8(a), 7, 255)}, px(n, n, 7, 255))
			got := Mix([]api.Pixel{px(0, 255, 90, uint8(a)), px(255, 0, 90, uint8(b))})
			if a+b == 0 {
				if got != (api.Pixel{}) {
					t.Error(got)
				}
				continue
			}
			r, _ := isNearest(got.R, int64(255*b), int64(a+b))
			g, _ := isNearest(got.G, int64(255*a), int64(a+b))
			if !r || !g || got.B != 90 || got.A != n {
				t.Errorf("%d %d: %v", a, b, got)
			}
		}
	}
}

// So many that the sums are beyond 32 bits.
func TestMixOfMany(t *testing.T) {
	l := slices.Repeat([]api.Pixel{px(255, 254, 0, 255), px(255, 255, 1, 255)}, 100000)
	mixes(t, l, px(255, 255, 1, 255))
	mixes(t, slices.Repeat([]api.Pixel{px(255, 254, 0, 255), px(7, 7, 7, 0)}, 100000), px(255, 254, 0, 128))
}

// The list is only read, and nothing behind its length.
func TestMixOnlyReads(t *testing.T) {
	l := []api.Pixel{px(1, 2, 3, 4), px(5, 6, 7, 8), px(255, 255, 255, 255)}
	as := slices.Clone(l)
	mixes(t, l[:2], slowMix([]api.Pixel{px(1, 2, 3, 4), px(5, 6, 7, 8)}))
	mixes(t, l[:0], api.Pixel{})
	if !slices.Equal(l, as) {
		t.Error(l)
	}
}

// P112

func TestTextByHand(t *testing.T) {
	for s, p := range map[string]api.Pixel{
		"ff000080": px(255, 0, 0, 128),
		"00000000": {},
		"ffffffff": px(255, 255, 255, 255),
		"01020304": px(1, 2, 3, 4),
		"ff010010": px(255, 1, 0, 16),
		"0a0b0cff": px(10, 11, 12, 255),
		"9abcdef0": px(0x9a, 0xbc, 0xde, 0xf0),
		// A pixel that does not cover keeps its colors.
		"12345600": px(0x12, 0x34, 0x56, 0),
	} {
		if got := Text(p); got != s {
			t.Errorf("Text(%v): %q, want %q", p, got, s)
		}
		reads(t, s, p)
	}
}

func TestTextsAreRead(t *testing.T) {
	m := mixer(5)
	try := func(p api.Pixel) {
		s := Text(p)
		if want := slowText(p); s != want {
			t.Errorf("Text(%v): %q, want %q", p, s, want)
		}
		reads(t, s, p)
	}
	for n := range 256 {
		for _, other := range edges() {
			try(px(uint8(n), other, 0x5a, 1))
			try(px(0xa5, uint8(n), other, 2))
			try(px(3, 0x3c, uint8(n), other))
			try(px(other, 4, 0xc3, uint8(n)))
		}
	}
	for range 5000 {
		try(m.pixel())
	}
}

func TestTextsOfNone(t *testing.T) {
	for _, s := range []string{
		"", "0", "0a0b0cf", "0a0b0cff0", "0A0b0cff", "0a0b0cfF", "0a0b0cfg", "+a0b0cff", "-a0b0cff", "0x0b0cff", " a0b0cff", "0a0b0cf ",
		"0a0b0cff\n", "\n0a0b0cff", "0a0b0cff\x00", "\x00a0b0cff", "#0a0b0cff", "#a0b0cff", "0a_b0cff", "0a,b,c,f", "FF000080",
		"0a0b0c\u00e9", "\uff10\uff11\uff12", "\u0660\u0660\u0660\u0660", "\xff\xff\xff\xff\xff\xff\xff\xff", "/:`g@G[{",
		"0a0b0cff0a0b0cff", strings.Repeat("0", 7), strings.Repeat("0", 9), strings.Repeat("0", 300000),
	} {
		unread(t, s)
	}
	for n := range 40 {
		if s := strings.Repeat("7", n); n == 8 {
			reads(t, s, grey(0x77, 0x77))
		} else {
			unread(t, s)
		}
	}
}

// Every byte at every place.
func TestEveryByte(t *testing.T) {
	for at := range 8 {
		good := 0
		for b := range 256 {
			l := []byte("0a1b2c3d")
			l[at] = byte(b)
			want, ok := slowRead(string(l))
			if !ok {
				unread(t, string(l))
				continue
			}
			reads(t, string(l), want)
			good++
		}
		if good != 16 {
			t.Errorf("place %d: %d digits are read", at, good)
		}
	}
}

// P113

// Over nothing and under nothing, whatever colors that nothing has.
func TestNothing(t *testing.T) {
	m := mixer(6)
	for mode := range 6 {
		for a := 1; a < 256; a++ {
			for n := range 256 {
				p := px(uint8(n), m.edge(), m.edge(), uint8(a))
				nothing := px(m.edge(), m.edge(), m.edge(), 0)
				lies(t, mode, p, nothing, p)
				lies(t, mode, nothing, p, p)
			}
			p := px(m.edge(), m.edge(), m.edge(), uint8(a))
			lies(t, mode, p, api.Pixel{}, p)
			lies(t, mode, api.Pixel{}, p, p)
		}
	}
}

// Normal: what covers all hides all.
func TestHidden(t *testing.T) {
	m := mixer(7)
	for b := range 256 {
		for n := range 256 {
			p := px(uint8(n), m.edge(), m.edge(), 255)
			lies(t, 0, p, px(m.edge(), m.edge(), m.edge(), uint8(b)), p)
		}
	}
	// And covers as much as can be, in every mode.
	for mode := range 6 {
		for range 2000 {
			p, q := m.pixel(), m.pixel()
			p.A = 255
			if got := over(t, mode, p, q); got.A != 255 {
				t.Errorf("Over(%d, %v, %v): %v", mode, p, q, got)
			}
			if got := over(t, mode, q, p); got.A != 255 {
				t.Errorf("Over(%d, %v, %v): %v", mode, q, p, got)
			}
		}
	}
}
