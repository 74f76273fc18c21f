package gif

import (
	"bytes"
	"errors"
	"image/color"
	"image/gif"
	"math"
	"slices"
	"strings"
	"testing"

	"layercake/api"
	"layercake/lzw"
)

var (
	red   = api.Pixel{R: 255, A: 255}
	black = api.Pixel{A: 255}
)

func colored(wide, high int, c api.Pixel) api.Picture {
	return api.Picture{Wide: wide, High: high, P: slices.Repeat([]api.Pixel{c}, wide*high)}
}

func repeated(f Frame, many int) []Frame { return slices.Repeat([]Frame{f}, many) }

func writes(t *testing.T, l []Frame, loops int) string {
	t.Helper()
	s, err := Write(l, loops)
	if err != nil {
		t.Fatalf("%d frames: %v", len(l), err)
	}
	return s
}

// fails bare.
func fails(t *testing.T, name any, l []Frame, loops int, want error) {
	t.Helper()
	if s, err := Write(l, loops); s != "" || err != want {
		t.Errorf("%v: %d bytes, %#v, want %v", name, len(s), err, want)
	}
}

func failsAt(t *testing.T, name any, l []Frame, at int, want error) {
	t.Helper()
	s, err := Write(l, 0)
	var f *api.Fault
	if s != "" || !errors.As(err, &f) || *f != (api.Fault{At: at, Err: want}) || err != error(f) {
		t.Errorf("%v: %d bytes, %#v, want %v at %d", name, len(s), err, want, at)
	}
}

func isRead(t *testing.T, name any, s string, want []Frame, loops int) {
	t.Helper()
	if l, n, err := Read(s); !sameFrames(l, want) || n != loops || err != nil {
		t.Errorf("%v: %d frames, %d, %v", name, len(l), n, err)
	}
}

func isNotRead(t *testing.T, name any, s string, want error) {
	t.Helper()
	if l, n, err := Read(s); len(l) != 0 || n != 0 || err != want {
		t.Errorf("%v: %d frames, %d, %#v, want %v", name, len(l), n, err, want)
	}
}

// P170

func TestHowManyFrames(t *testing.T) {
	good := Frame{P: colored(2, 3, red)}
	for n := range 40 {
		l := repeated(good, n)
		if n >= 1 && n <= 16 {
			writes(t, l, 0)
			continue
		}
		fails(t, n, l, 0, api.ErrBound)
		// Whatever the frames are.
		fails(t, n, make([]Frame, n), 0, api.ErrBound)
	}
	fails(t, "nil", nil, 0, api.ErrBound)
	fails(t, "nil, and loops", nil, -1, api.ErrBound)
}

func TestLoops(t *testing.T) {
	good := Frame{P: colored(2, 3, red)}
	for many := 1; many <= 16; many++ {
		for _, loops := range []int{0, 1, 2, 255, 256, 257, 32767, 32768, 65534, 65535} {
			writes(t, repeated(good, many), loops)
		}
		for _, loops := range []int{math.MinInt, -65536, -256, -1, 65536, 65537, 1 << 17, 1 << 32, math.MaxInt} {
			fails(t, loops, repeated(good, many), loops, api.ErrBound)
			fails(t, loops, make([]Frame, many), loops, api.ErrBound)
		}
	}
}

func TestHowManyPixels(t *testing.T) {
	for _, c := range []struct{ wide, high, most int }{
		{256, 234, 1}, {240, 250, 1}, {250, 240, 1}, {256, 235, 0}, {241, 249, 0}, {256, 256, 0},
		{200, 150, 2}, {127, 237, 1}, {219, 137, 1}, {177, 113, 2}, {80, 250, 3}, {100, 100, 6}, {86, 100, 6}, {125, 30, 16}, {121, 31, 15}, {1, 1, 16}, {256, 1, 16},
	} {
		good := Frame{P: colored(c.wide, c.high, red)}
		for n := 1; n <= 16; n++ {
			if (n <= c.most) != (c.wide*c.high*n <= 60000) {
				t.Fatalf("%v are none to try", c)
			}
			if n <= c.most {
				isRead(t, c, writes(t, repeated(good, n), 0), repeated(good, n), 0)
				continue
			}
			fails(t, c, repeated(good, n), 0, api.ErrBound)
			// It is the first one's pixels that are asked for, and ahead of what the others are.
			l := make([]Frame, n)
			l[0] = Frame{P: good.P, Delay: -1}
			fails(t, c, l, 0, api.ErrBound)
		}
	}
}

// A first frame that is not right has no pixels that are too many.
func TestNotRightIsNotTooGreat(t *testing.T) {
	big := colored(256, 256, red)
	big.P = big.P[1:]
	failsAt(t, "one too few", []Frame{{P: big}}, 0, api.ErrShape)
	failsAt(t, "too wide", []Frame{{P: colored(257, 256, red)}}, 0, api.ErrShape)
	failsAt(t, "too many", []Frame{{P: api.Picture{Wide: 1, High: 1, P: colored(256, 256, red).P}}}, 0, api.ErrShape)
	for n := 2; n <= 16; n++ {
		l := repeated(Frame{P: colored(256, 256, red)}, n)
		l[0].P = colored(1, 1, red)
		failsAt(t, "only later ones are great", l, 1, api.ErrShape)
	}
}

func TestShapes(t *testing.T) {
	good := Frame{P: colored(3, 2, red)}
	of := func(wide, high, many int) api.Picture {
		return api.Picture{Wide: wide, High: high, P: make([]api.Pixel, many)}
	}
	for i, p := range []api.Picture{
		{}, of(3, 2, 0), of(3, 2, 5), of(3, 2, 7), of(0, 0, 0), of(0, 2, 0), of(3, 0, 0), of(-3, -2, 6), of(-1, 1, 0), of(257, 1, 257), of(1, 257, 257),
		of(1<<32, 1<<32, 0), of(math.MinInt, 2, 0), of(math.MaxInt, math.MaxInt, 1), of(3, 1<<62, 0), of(3+1<<16, 2, 6), of(3, 2+1<<32, 6),
	} {
		for many := 1; many <= 16; many++ {
			for _, at := range []int{0, 1, many / 2, many - 1} {
				if at >= many {
					continue
				}
				l := repeated(good, many)
				l[at].P = p
				failsAt(t, i, l, at, api.ErrShape)
			}
		}
	}
	// Right, but of another size than the first one.
	for i, p := range []api.Picture{of(2, 3, 6), of(6, 1, 6), of(1, 6, 6), of(3, 1, 3), of(3, 3, 9), of(2, 2, 4), of(4, 2, 8), of(256, 256, 65536)} {
		for many := 2; many <= 16; many++ {
			for at := 1; at < many; at++ {
				l := repeated(good, many)
				l[at].P = p
				failsAt(t, i, l, at, api.ErrShape)
			}
		}
		if len(p.P) < 1000 {
			failsAt(t, i, []Frame{{P: p}, good, good}, 1, api.ErrShape)
		}
	}
}

func TestDelays(t *testing.T) {
	good := Frame{P: colored(3, 2, red)}
	for many := 1; many <= 16; many++ {
		for at := range many {
			l := repeated(good, many)
			for _, delay := range []int{0, 1, 255, 256, 65534, 65535} {
				l[at].Delay = delay
				writes(t, l, 0)
			}
			for _, delay := range []int{math.MinInt, -65536, -1, 65536, 65537, 1 << 32, math.MaxInt} {
				l[at].Delay = delay
				failsAt(t, delay, l, at, api.ErrBound)
			}
		}
	}
}

func TestCovers(t *testing.T) {
	for a := range 256 {
		for _, at := range []int{0, 1, 2, 5} {
			p := colored(3, 2, red)
			p.P[at].A = uint8(a)
			l := []Frame{{P: colored(3, 2, black)}, {P: p}, {P: p}}
			if a == 0 || a == 255 {
				writes(t, l, 0)
			} else {
				failsAt(t, a, l, 1, api.ErrColors)
			}
		}
	}
}

func TestHowManyColors(t *testing.T) {
	m := mixer(1)
	for _, many := range []int{1, 2, 254, 255, 256, 257, 258, 300, 600} {
		of := m.unlike(many)
		p := m.picture(30, 30, of)
		l := []Frame{{P: colored(30, 30, red)}, {P: p}}
		if many <= 256 {
			isRead(t, many, writes(t, l, 0), l, 0)
		} else {
			failsAt(t, many, l, 1, api.ErrColors)
		}
		// Those that cover nothing are one more, whatever their colors are.
		for clear := 1; clear <= 300; clear += 23 {
			q := copied(p)
			for i := range clear {
				q.P = append(q.P, api.Pixel{R: uint8(i), G: uint8(i / 256)})
			}
			for len(q.P) < 30*40 {
				q.P = append(q.P, p.P[0])
			}
			q.High = 40
			l := []Frame{{P: q}}
			if many <= 255 {
				isRead(t, many, writes(t, l, 0), asRead(l), 0)
			} else {
				failsAt(t, many, l, 0, api.ErrColors)
			}
		}
	}
	every := api.Picture{Wide: 256, High: 1}
	for i := range 256 {
		every.P = append(every.P, api.Pixel{B: uint8(i)})
	}
	isRead(t, "many of nothing", writes(t, []Frame{{P: every}}, 0), asRead([]Frame{{P: every}}), 0)
}

// The first frame that is wrong is told, and of it what is named first.
func TestWhichErrorIsTold(t *testing.T) {
	few := func(f *Frame) { f.P.P = f.P.P[:5] }
	turned := func(f *Frame) { f.P.Wide, f.P.High = 2, 3 }
	bound := func(f *Frame) { f.Delay = 65536 }
	colors := func(f *Frame) { f.P.P[2].A = 9 }
	wrong := []func(f *Frame){few, turned, bound, colors}
	errs := []error{api.ErrShape, api.ErrShape, api.ErrBound, api.ErrColors}
	of := func() []Frame {
		var l []Frame
		for range 4 {
			l = append(l, Frame{P: colored(3, 2, red)})
		}
		return l
	}
	for i := range wrong {
		for k := range wrong {
			apart, both := of(), of()
			wrong[i](&apart[1])
			wrong[k](&apart[2])
			failsAt(t, [2]int{i, k}, apart, 1, errs[i])
			wrong[i](&both[3])
			wrong[k](&both[3])
			failsAt(t, [2]int{i, k}, both, 3, errs[min(i, k)])
			fails(t, [2]int{i, k}, both, -1, api.ErrBound)
		}
	}
}

func TestErrorsAreAsTold(t *testing.T) {
	m := mixer(2)
	seen := map[string]int{}
	for range 6000 {
		wide, high := m.between(1, 9), m.between(1, 9)
		if m.below(30) == 0 {
			wide, high = m.between(100, 256), m.between(100, 256)
		}
		l := repeated(Frame{P: colored(wide, high, red)}, m.below(18))
		for i := range l {
			l[i].P = copied(l[i].P)
			switch m.below(12) {
			case 0:
				l[i].Delay = m.between(-1, 1) * 65536
			case 1:
				l[i].P.P[m.below(wide*high)].A = uint8(m.below(3) - 1)
			case 2:
				l[i].P.Wide += m.between(-1, 1)
			case 3:
				if m.below(3) == 0 {
					l[i].P.P = l[i].P.P[1:]
				}
			case 4:
				if n := m.between(250, 260); n <= wide*high {
					copy(l[i].P.P, m.unlike(n))
				}
			}
		}
		loops := m.between(-1, 30) * 2185
		want := slowError(l, loops)
		s, err := Write(l, loops)
		if !alike(err, want) || (s == "") != (want != nil) {
			t.Fatalf("%d frames of %d by %d: %#v, want %#v", len(l), wide, high, err, want)
		}
		if want == nil {
			seen["none"]++
		} else if f, ok := want.(*api.Fault); ok {
			seen["at "+f.Err.Error()]++
		} else {
			seen[want.Error()]++
		}
	}
	if len(seen) != 5 {
		t.Errorf("too few kinds of errors were tried: %v", seen)
	}
}

// Check tells what Write tells of frames of which each pixel covers all, in one color.
func TestCheck(t *testing.T) {
	m := mixer(16)
	for range 3000 {
		wide, high := m.between(1, 9), m.between(1, 9)
		if m.below(30) == 0 {
			wide, high = m.between(100, 256), m.between(100, 256)
		}
		l := repeated(Frame{P: colored(wide, high, red)}, m.below(18))
		for i := range l {
			switch m.below(12) {
			case 0:
				l[i].Delay = m.between(-1, 1) * 65536
			case 1:
				l[i].P.High += m.between(-1, 1)
			case 2:
				l[i].P.P = l[i].P.P[m.below(2):]
			}
		}
		loops := m.between(-1, 30) * 2185
		want := slowError(l, loops)
		for i := range l {
			l[i].P = copied(l[i].P)
			for k := range l[i].P.P {
				l[i].P.P[k] = api.Pixel{R: uint8(k), G: uint8(k / 256), B: uint8(i), A: uint8(m.below(256))}
			}
		}
		if err := Check(l, loops); !alike(err, want) {
			t.Fatalf("%d frames of %d by %d: %#v, want %#v", len(l), wide, high, err, want)
		}
	}
	if err := Check(nil, 0); err != api.ErrBound {
		t.Error(err)
	}
}

// P171

func TestWrittenByHand(t *testing.T) {
	two := api.Picture{Wide: 2, High: 1, P: []api.Pixel{red, {}}}
	const head, loops = "GIF89a\x02\x00\x01\x00\x70\x00\x00", "\x21\xff\x0bNETSCAPE2.0\x03\x01"
	// 4 0 1 5 in 3 bits.
	first := "\x21\xf9\x04\x09\x02\x01\x01\x00\x2c\x00\x00\x00\x00\x02\x00\x01\x00\x80\xff\x00\x00\x00\x00\x00\x02\x02\x44\x0a\x00"
	second := "\x21\xf9\x04\x08\xff\xff\x00\x00\x2c\x00\x00\x00\x00\x02\x00\x01\x00\x80\x00\x00\x00\xff\x00\x00\x02\x02\x44\x0a\x00"
	other := api.Picture{Wide: 2, High: 1, P: []api.Pixel{black, red}}
	for _, c := range []struct {
		l     []Frame
		loops int
		want  string
	}{
		{[]Frame{{two, 258}}, 0, head + first + ";"},
		{[]Frame{{two, 258}}, 7, head + first + ";"},
		{[]Frame{{two, 258}, {other, 65535}}, 0, head + loops + "\x00\x00\x00" + first + second + ";"},
		{[]Frame{{other, 65535}, {two, 258}, {other, 65535}}, 772, head + loops + "\x04\x03\x00" + second + first + second + ";"},
		{[]Frame{{colored(256, 1, api.Pixel{R: 9}), 0}}, 0, "GIF89a\x00\x01\x01\x00\x70\x00\x00\x21\xf9\x04\x09\x00\x00\x00\x00\x2c\x00\x00\x00\x00\x00\x01\x01\x00\x80\x00\x00\x00\x00\x00\x00\x02" + packed0(256) + ";"},
	} {
		if s := writes(t, c.l, c.loops); s != c.want {
			t.Errorf("%q, want %q", s, c.want)
		}
	}
}

// packed0: so many numbers 0 of 2 bits, in blocks.
func packed0(many int) string {
	s, _ := lzw.Pack(strings.Repeat("\x00", many), 2)
	return lzw.Blocks(s)
}

func TestWrittenAsTold(t *testing.T) {
	m := mixer(3)
	for range 400 {
		wide, high := m.between(1, 40), m.between(1, 40)
		l, loops := m.frames(wide, high, m.between(1, 16)), m.below(65536)
		if s := writes(t, l, loops); s != slowWhole(l, loops).text() {
			t.Fatalf("%d frames of %d by %d: not as told", len(l), wide, high)
		}
	}
}

// With so many colors, with and without pixels that cover nothing, first or last.
func TestEveryCountOfColors(t *testing.T) {
	m := mixer(4)
	for many := 1; many <= 256; many++ {
		of := m.unlike(many)
		for clearAt := -1; clearAt < many; clearAt += max(1, many/3) {
			l := slices.Clone(of)
			if clearAt >= 0 {
				l[clearAt] = api.Pixel{G: 8}
			}
			p := api.Picture{Wide: 64, High: 5, P: append(slices.Clone(l), m.picture(320-many, 1, l).P...)}
			f := []Frame{{p, many}}
			s := writes(t, f, 0)
			if s != slowWhole(f, 0).text() {
				t.Errorf("%d colors, nothing at %d: not as told", many, clearAt)
			}
			room := 2
			for room < many {
				room *= 2
			}
			list := s[31 : 31+3*room]
			for i := range room {
				want := api.Pixel{}
				if i < many && i != clearAt {
					want = l[i]
				}
				if list[3*i:3*i+3] != bytesOf(int(want.R), int(want.G), int(want.B)) {
					t.Fatalf("%d colors, nothing at %d: %d is another one", many, clearAt, i)
				}
			}
			if clearAt >= 0 && (s[16] != 9 || int(s[19]) != clearAt) || clearAt < 0 && (s[16] != 8 || s[19] != 0) {
				t.Errorf("%d colors, nothing at %d: %d, %d", many, clearAt, s[16], s[19])
			}
			isRead(t, many, s, asRead(f), 0)
		}
	}
}

func TestLibraryReads(t *testing.T) {
	m := mixer(5)
	for range 200 {
		wide, high := m.between(1, 50), m.between(1, 50)
		l, loops := m.frames(wide, high, m.between(1, 16)), m.below(65536)
		g, err := gif.DecodeAll(strings.NewReader(writes(t, l, loops)))
		if err != nil {
			t.Fatal(err)
		}
		if len(l) == 1 {
			loops = -1 // as it tells that none are told
		}
		if len(g.Image) != len(l) || g.LoopCount != loops || g.Config.Width != wide || g.Config.Height != high {
			t.Fatalf("%d frames of %d by %d, %d", len(g.Image), g.Config.Width, g.Config.Height, g.LoopCount)
		}
		for i, f := range asRead(l) {
			if g.Delay[i] != f.Delay || g.Disposal[i] != gif.DisposalBackground {
				t.Errorf("%d: %d, %d", i, g.Delay[i], g.Disposal[i])
			}
			for k, c := range f.P.P {
				if got := color.NRGBAModel.Convert(g.Image[i].At(k%wide, k/wide)); got != (color.NRGBA{c.R, c.G, c.B, c.A}) {
					t.Fatalf("%d, pixel %d: %v, want %v", i, k, got, c)
				}
			}
		}
	}
}

// P172

func TestReadAsWritten(t *testing.T) {
	m := mixer(6)
	for range 500 {
		wide, high := m.between(1, 30), m.between(1, 30)
		if m.below(10) == 0 {
			wide, high = m.between(1, 2)*128, m.between(1, 14)
		}
		l, loops := m.frames(wide, high, m.between(1, 16)), m.below(65536)
		s := slowWhole(l, loops).text()
		if len(l) == 1 {
			loops = 0
		}
		isRead(t, len(l), s, asRead(l), loops)
	}
}

// judged: whatever a text is, it is read only if it is what the slow way writes of what is read.
func judged(t *testing.T, name any, s string) (ok bool) {
	t.Helper()
	l, loops, err := Read(s)
	if err != nil {
		if err != api.ErrText || len(l) != 0 || loops != 0 {
			t.Fatalf("%v: %d frames, %d, %#v", name, len(l), loops, err)
		}
		return false
	}
	if slowError(l, loops) != nil || slowWhole(l, loops).text() != s || !sameFrames(asRead(l), l) || len(l) == 1 && loops != 0 {
		t.Fatalf("%v: read, though it is not so written", name)
	}
	return true
}

func fewSamples() [][]Frame {
	m := mixer(7)
	return [][]Frame{
		{{colored(1, 1, red), 0}},
		{{colored(1, 1, api.Pixel{}), 65535}},
		{{api.Picture{Wide: 2, High: 1, P: []api.Pixel{red, {}}}, 258}},
		{{colored(3, 3, black), 1}, {colored(3, 3, api.Pixel{}), 2}},
		{m.frame(4, 4, 5, true), m.frame(4, 4, 4, false), m.frame(4, 4, 3, true)},
		{m.frame(20, 20, 17, true)},
		m.frames(2, 2, 16),
	}
}

func TestSpoilt(t *testing.T) {
	read, notRead := 0, 0
	count := func(ok bool) {
		if ok {
			read++
		} else {
			notRead++
		}
	}
	for i, l := range fewSamples() {
		s := writes(t, l, 513)
		for at := range s {
			isNotRead(t, i, s[:at], api.ErrText)
			count(judged(t, at, s[at+1:]))
			count(judged(t, at, s[:at]+s[at+1:]))
			count(judged(t, at, s[:at]+s[at:at+1]+s[at:]))
			count(judged(t, at, s[:at]+"\x00"+s[at:]))
			count(judged(t, at, s[:at]+"\x3b"+s[at+1:]))
			for bit := range 8 {
				b := []byte(s)
				b[at] ^= 1 << bit
				count(judged(t, at, string(b)))
			}
			if len(s) < 200 {
				for n := range 256 {
					count(judged(t, at, s[:at]+bytesOf(n)+s[at+1:]))
				}
			}
		}
		for _, more := range []string{"\x00", "x", "\x3b", s, s[13:], "\x21\xf9\x04"} {
			isNotRead(t, i, s+more, api.ErrText)
			isNotRead(t, i, more+s, api.ErrText)
		}
	}
	if read < 1000 || notRead < 1000 {
		t.Errorf("%d read, %d not: too few to tell", read, notRead)
	}
}

func TestForged(t *testing.T) {
	m := mixer(8)
	p := api.Picture{Wide: 3, High: 2, P: []api.Pixel{red, black, {}, red, {R: 1, A: 255}, {}}}
	one, two := []Frame{{p, 7}}, []Frame{{p, 7}, {m.picture(3, 2, m.unlike(4)), 9}}
	pack := func(width int, numbers ...int) string {
		s, err := lzw.Pack(bytesOf(numbers...), width)
		if err != nil {
			t.Fatal(err)
		}
		return s
	}
	for name, spoil := range map[string]func(x *whole, f *pieces){
		"another beginning":      func(x *whole, _ *pieces) { x.first = "GIF87a" },
		"none":                   func(x *whole, _ *pieces) { x.first = "" },
		"wider":                  func(x *whole, _ *pieces) { x.sides = "\x04\x00\x02\x00" },
		"turned":                 func(x *whole, _ *pieces) { x.sides = "\x02\x00\x03\x00" },
		"far too wide":           func(x *whole, _ *pieces) { x.sides = "\x03\x01\x02\x00" },
		"no width":               func(x *whole, _ *pieces) { x.sides = "\x00\x00\x02\x00" },
		"colors of all":          func(x *whole, _ *pieces) { x.behind = "\xf0\x00\x00" + strings.Repeat("\x00", 6) },
		"another color behind":   func(x *whole, _ *pieces) { x.behind = "\x70\x01\x00" },
		"another form of pixels": func(x *whole, _ *pieces) { x.behind = "\x70\x00\x31" },
		"two lists of loops":     func(x *whole, _ *pieces) { x.loops += slowLoops(513) },
		"loops in words":         func(x *whole, _ *pieces) { x.loops = strings.Replace(slowLoops(1), "NETSCAPE2.0", "ANIMEXTS1.0", 1) },
		"more behind loops":      func(x *whole, _ *pieces) { x.loops = slowLoops(1) + "\x00" },
		"a remark":               func(x *whole, _ *pieces) { x.loops += "\x21\xfe\x01a\x00" },
		"no end":                 func(x *whole, _ *pieces) { x.last = "" },
		"more behind the end":    func(x *whole, _ *pieces) { x.last = ";;" },
		"no frame":               func(x *whole, _ *pieces) { x.frames = nil },
		"too many frames":        func(x *whole, f *pieces) { x.frames = slices.Repeat([]pieces{*f}, 17) },
		"far too many frames":    func(x *whole, f *pieces) { x.frames = slices.Repeat([]pieces{*f}, 3000) },
		"nothing ahead":          func(_ *whole, f *pieces) { f.before, f.flags, f.delay, f.clearOne, f.between = "", "", "", "", "\x2c" },
		"another length":         func(_ *whole, f *pieces) { f.before = "\x21\xf9\x05" },
		"all covers":             func(_ *whole, f *pieces) { f.flags = "\x08" },
		"another disposal":       func(_ *whole, f *pieces) { f.flags = "\x05" },
		"with a wait":            func(_ *whole, f *pieces) { f.flags = "\x0b" },
		"another one is clear":   func(_ *whole, f *pieces) { f.clearOne = "\x00" },
		"one beyond is clear":    func(_ *whole, f *pieces) { f.clearOne = "\x04" },
		"a far one is clear":     func(_ *whole, f *pieces) { f.clearOne = "\xff" },
		"elsewhere":              func(_ *whole, f *pieces) { f.between = "\x00\x2c\x01\x00\x00\x00" },
		"below":                  func(_ *whole, f *pieces) { f.between = "\x00\x2c\x00\x00\x01\x00" },
		"not so wide":            func(_ *whole, f *pieces) { f.sides = "\x02\x00\x02\x00" },
		"a wider one":            func(_ *whole, f *pieces) { f.sides = "\x04\x00\x02\x00" },
		"row by row apart":       func(_ *whole, f *pieces) { f.size = "\xc1" },
		"colors in order":        func(_ *whole, f *pieces) { f.size = "\xa1" },
		"no colors":              func(_ *whole, f *pieces) { f.size, f.colors = "\x01", "" },
		"a size and no colors":   func(_ *whole, f *pieces) { f.colors = "" },
		"too many colors":        func(_ *whole, f *pieces) { f.size, f.colors = "\x82", f.colors+strings.Repeat("\x00", 12) },
		"too many, and wider": func(_ *whole, f *pieces) {
			f.size, f.colors, f.width = "\x82", f.colors+strings.Repeat("\x00", 12), "\x03"
		},
		"clear of a color":      func(_ *whole, f *pieces) { f.colors = f.colors[:6] + "\x01\x02\x03" + f.colors[9:] },
		"no width of numbers":   func(_ *whole, f *pieces) { f.width = "\x00" },
		"numbers of a bit":      func(_ *whole, f *pieces) { f.width = "\x01" },
		"wide numbers":          func(_ *whole, f *pieces) { f.width, f.blocks = "\x03", lzw.Blocks(pack(3, 0, 1, 2, 0, 3, 2)) },
		"far too wide ones":     func(_ *whole, f *pieces) { f.width = "\x09" },
		"the widest":            func(_ *whole, f *pieces) { f.width, f.blocks = "\x08", lzw.Blocks(pack(8, 0, 1, 2, 0, 3, 2)) },
		"no color's number":     func(_ *whole, f *pieces) { f.width, f.blocks = "\x08", lzw.Blocks(pack(8, 0, 1, 2, 0, 255, 2)) },
		"another order":         func(_ *whole, f *pieces) { f.blocks = lzw.Blocks(pack(2, 1, 0, 2, 1, 3, 2)) },
		"a pixel too few":       func(_ *whole, f *pieces) { f.blocks = lzw.Blocks(pack(2, 0, 1, 2, 0, 3)) },
		"a pixel too many":      func(_ *whole, f *pieces) { f.blocks = lzw.Blocks(pack(2, 0, 1, 2, 0, 3, 2, 2)) },
		"no pixel":              func(_ *whole, f *pieces) { f.blocks = lzw.Blocks(pack(2)) },
		"far too many pixels":   func(_ *whole, f *pieces) { f.blocks = lzw.Blocks(pack(2, make([]int, 299000)...)) },
		"no numbers":            func(_ *whole, f *pieces) { f.blocks = "\x00" },
		"no blocks":             func(_ *whole, f *pieces) { f.blocks = "" },
		"blocks of a byte":      func(_ *whole, f *pieces) { f.blocks = blocksOf(1, pack(2, 0, 1, 2, 0, 3, 2)) },
		"more behind the codes": func(_ *whole, f *pieces) { f.blocks = lzw.Blocks(pack(2, 0, 1, 2, 0, 3, 2) + "\x00") },
		"codes in a long way":   func(_ *whole, f *pieces) { f.blocks = lzw.Blocks(codes(3, 4, 4, 0, 1, 2, 0) + codes(3)) },
		"no end of codes":       func(_ *whole, f *pieces) { f.blocks = lzw.Blocks("\x44") },
	} {
		for _, l := range [][]Frame{one, two} {
			x := slowWhole(l, 513)
			if !judged(t, name, x.text()) {
				t.Fatal("what is not spoilt is not read")
			}
			spoil(&x, &x.frames[0])
			isNotRead(t, name, x.text(), api.ErrText)
		}
	}
}

// blocksOf so many bytes each.
func blocksOf(many int, s string) string {
	var b strings.Builder
	for at := 0; at < len(s); at += many {
		part := s[at:min(len(s), at+many)]
		b.WriteString(bytesOf(len(part)) + part)
	}
	return b.String() + "\x00"
}

// codes of so many bits each, the lowest first.
func codes(size int, l ...int) string {
	n, at := 0, 0
	for _, c := range l {
		n |= c << at
		at += size
	}
	var b strings.Builder
	for ; at > 0; at -= 8 {
		b.WriteByte(byte(n))
		n >>= 8
	}
	return b.String()
}

// The same pixels, told by codes that Write does not tell.
func TestOtherCodes(t *testing.T) {
	x := slowWhole([]Frame{{colored(3, 1, red), 0}}, 0)
	if want := lzw.Blocks(codes(3, 4, 0, 6, 5)); x.frames[0].blocks != want {
		t.Fatalf("%q, want %q", x.frames[0].blocks, want)
	}
	for name, s := range map[string]string{
		"short words":       codes(3, 4, 0, 0, 0, 5),
		"cleared twice":     codes(3, 4, 4, 0, 6, 5),
		"cleared between":   codes(3, 4, 0, 4, 0, 0, 5),
		"not cleared":       codes(3, 0, 6, 5),
		"bits behind":       "\x84\xfb",
		"cleared at last":   codes(3, 4, 0, 6, 4, 5),
		"a byte behind":     codes(3, 4, 0, 6, 5) + "\x00",
		"another one of it": codes(3, 4, 0, 6, 5) + codes(3, 4, 0, 6, 5),
	} {
		if text, _, err := lzw.Unpack(s, 2, 3); text != "\x00\x00\x00" || err != nil {
			t.Errorf("%s: these are other pixels: %q, %v", name, text, err)
		}
		x.frames[0].blocks = lzw.Blocks(s)
		isNotRead(t, name, x.text(), api.ErrText)
	}
}

// Of one frame no loops are told; of more they are, also if they are 0.
func TestLoopsAreTold(t *testing.T) {
	m := mixer(9)
	for many := 1; many <= 16; many++ {
		l := m.frames(5, 5, many)
		for _, loops := range []int{0, 1, 256, 65535} {
			x := slowWhole(l, loops)
			if many == 1 {
				isRead(t, loops, x.text(), asRead(l), 0)
				x.loops = slowLoops(loops)
			} else {
				isRead(t, loops, x.text(), asRead(l), loops)
				x.loops = ""
			}
			isNotRead(t, many, x.text(), api.ErrText)
		}
	}
}

// As many pixels as may be are read, and no more: each frame by itself may have them.
func TestNoMorePixels(t *testing.T) {
	for _, c := range []struct{ wide, high, many int }{{240, 250, 1}, {200, 150, 2}, {125, 30, 16}, {256, 234, 1}, {241, 249, 1}, {256, 256, 1}, {200, 151, 2}, {121, 31, 16}, {256, 256, 16}, {256, 256, 600}} {
		x := slowWhole([]Frame{{colored(c.wide, c.high, red), 0}}, 0)
		if x.frames = slices.Repeat(x.frames, c.many); c.many > 1 {
			x.loops = slowLoops(3)
		}
		s := x.text()
		if c.wide*c.high*c.many > 60000 {
			isNotRead(t, c, s, api.ErrText)
		} else if !judged(t, c, s) {
			t.Errorf("%v is not read", c)
		}
	}
}

func TestColorsThatAreListed(t *testing.T) {
	of := func(numbers, colors []int, clearOne int) string {
		x := whole{first: "GIF89a", sides: "\x04\x00\x01\x00", behind: "\x70\x00\x00", last: ";"}
		x.frames = []pieces{slowForm(Frame{P: api.Picture{Wide: 4, High: 1}}, numbers, colors, clearOne)}
		return x.text()
	}
	a, b := []int{9, 8, 7}, []int{1, 2, 3}
	join := func(l ...[]int) []int { return slices.Concat(l...) }
	nothing := []int{0, 0, 0}
	ab := []api.Pixel{{R: 9, G: 8, B: 7, A: 255}, {R: 1, G: 2, B: 3, A: 255}}
	isRead(t, "two", of([]int{0, 1, 1, 0}, join(a, b), -1), []Frame{{P: api.Picture{Wide: 4, High: 1, P: []api.Pixel{ab[0], ab[1], ab[1], ab[0]}}}}, 0)
	isRead(t, "black, that covers all, in the room", of([]int{0, 1, 1, 0}, a, -1), []Frame{{P: api.Picture{Wide: 4, High: 1, P: []api.Pixel{ab[0], black, black, ab[0]}}}}, 0)
	isRead(t, "nothing beside black", of([]int{0, 1, 2, 2}, join(nothing, nothing, a), 1), []Frame{{P: api.Picture{Wide: 4, High: 1, P: []api.Pixel{black, {}, ab[0], ab[0]}}}}, 0)
	isRead(t, "black beside nothing", of([]int{0, 1, 2, 2}, join(nothing, nothing, a), 0), []Frame{{P: api.Picture{Wide: 4, High: 1, P: []api.Pixel{{}, black, ab[0], ab[0]}}}}, 0)
	for name, s := range map[string]string{
		"one that no pixel has":              of([]int{0, 0, 0, 0}, join(a, b), -1),
		"one that no pixel has, later":       of([]int{0, 1, 1, 0}, join(a, b, a), -1),
		"one twice":                          of([]int{0, 1, 1, 0}, join(a, a), -1),
		"black twice":                        of([]int{0, 1, 2, 0}, join(a, nothing), -1),
		"in another order":                   of([]int{1, 0, 0, 1}, join(a, b), -1),
		"nothing that no pixel has":          of([]int{0, 0, 0, 0}, a, 1),
		"nothing beyond":                     of([]int{0, 0, 0, 0}, a, 2),
		"nothing of a color":                 of([]int{0, 1, 1, 1}, join(a, b), 1),
		"nothing ahead of the first one":     of([]int{1, 0, 1, 0}, join(nothing, a), 0),
		"three, of which the first is last":  of([]int{1, 2, 0, 0}, join(a, b, nothing), -1),
		"a greater list than there is to it": of([]int{0, 1, 1, 0}, join(a, b, nothing), -1),
	} {
		isNotRead(t, name, s, api.ErrText)
	}
}

func TestReadOfNone(t *testing.T) {
	m := mixer(10)
	for _, s := range []string{"", "\x00", "GIF89a", "GIF89a;", "GIF89a\x01\x00\x01\x00\x70\x00\x00;", "\x3b", strings.Repeat("\x00", 3000), strings.Repeat("\xff", 3000)} {
		isNotRead(t, s, s, api.ErrText)
	}
	good := writes(t, m.frames(9, 9, 3), 5)
	for range 3000 {
		b := make([]byte, m.below(60))
		for i := range b {
			b[i] = byte(m.below(256))
		}
		isNotRead(t, len(b), string(b), api.ErrText)
		at := m.below(len(good))
		judged(t, at, good[:at]+string(b))
		judged(t, at, good[:at]+string(b)+good[min(len(good), at+len(b)):])
	}
}

func TestReadOfTooMany(t *testing.T) {
	m := mixer(11)
	good := writes(t, m.frames(9, 9, 3), 5)
	for _, n := range []int{api.MaxBytes + 1, api.MaxBytes + 2, 3 * api.MaxBytes} {
		isNotRead(t, n, strings.Repeat("\x00", n), api.ErrBound)
		isNotRead(t, n, good+strings.Repeat("\x00", n-len(good)), api.ErrBound)
	}
	for _, s := range []string{
		strings.Repeat("\x00", api.MaxBytes), good + strings.Repeat("\x00", api.MaxBytes-len(good)),
		strings.Repeat(good, api.MaxBytes/len(good)+1)[:api.MaxBytes], (good[:len(good)-1] + strings.Repeat(good[32:len(good)-1], 2*api.MaxBytes/len(good)))[:api.MaxBytes],
	} {
		isNotRead(t, len(s), s, api.ErrText)
	}
}

// What others write is not what Write writes.
func TestLibraryWrites(t *testing.T) {
	m := mixer(12)
	g, err := gif.DecodeAll(strings.NewReader(writes(t, m.frames(20, 20, 3), 5)))
	if err != nil {
		t.Fatal(err)
	}
	var b bytes.Buffer
	if err := gif.EncodeAll(&b, g); err != nil {
		t.Fatal(err)
	}
	judged(t, "the library", b.String())
}

// P173

// As great as they may be, and of colors that can't be packed well.
func TestGreatestOnes(t *testing.T) {
	m := mixer(13)
	for _, c := range []struct{ wide, high, many int }{{240, 250, 1}, {250, 120, 2}, {125, 30, 16}, {256, 14, 16}} {
		for _, colors := range []int{1, 2, 3, 16, 17, 129, 256} {
			for _, someClear := range []bool{false, true} {
				var l []Frame
				for range c.many {
					l = append(l, m.frame(c.wide, c.high, colors, someClear))
				}
				s := writes(t, l, 65535)
				if len(s) > api.MaxBytes {
					t.Errorf("%v, %d colors: %d bytes", c, colors, len(s))
				}
				loops := 65535
				if c.many == 1 {
					loops = 0
				}
				isRead(t, c, s, asRead(l), loops)
			}
		}
	}
}

func TestEverySmallPicture(t *testing.T) {
	of := []api.Pixel{red, black, {}, {R: 255}, {B: 1, A: 255}}
	for n := 1; n <= 5; n++ {
		count := 1
		for range n {
			count *= len(of)
		}
		for i := range count {
			p := api.Picture{Wide: n, High: 1}
			for k := i; len(p.P) < n; k /= len(of) {
				p.P = append(p.P, of[k%len(of)])
			}
			l := []Frame{{p, i}}
			s := writes(t, l, 0)
			if s != slowWhole(l, 0).text() {
				t.Fatalf("%v: %q", p, s)
			}
			isRead(t, p, s, asRead(l), 0)
		}
	}
}

func TestDelaysAndLoopsAreRead(t *testing.T) {
	for n := 0; n <= 65535; n += 37 {
		l := []Frame{{colored(1, 1, red), n}, {colored(1, 1, api.Pixel{}), 65535 - n}}
		isRead(t, n, writes(t, l, n), l, n)
	}
}

// P2, P3, P4

// What is handed over is only read, without the room behind it, and what is answered is new memory.
func TestNewMemory(t *testing.T) {
	m := mixer(14)
	frames := make([]Frame, 4)
	var rooms, were [][]api.Pixel
	for i := range frames {
		p := m.picture(9, 9, append(m.unlike(30), api.Pixel{R: 3}))
		room := append(p.P, m.unlike(20)...)
		rooms, were = append(rooms, room), append(were, slices.Clone(room))
		p.P = room[:81]
		frames[i] = Frame{p, i}
	}
	l := frames[:3]
	s := writes(t, l, 9)
	frames[3] = Frame{Delay: -1}
	if writes(t, l, 9) != s || frames[3].Delay != -1 {
		t.Error("what lies behind the list is read, or written")
	}
	for i := range rooms {
		if !slices.Equal(rooms[i], were[i]) {
			t.Error("what was handed over is changed")
		}
		for k := 81; k < len(rooms[i]); k++ {
			rooms[i][k] = api.Pixel{A: 77}
		}
	}
	if writes(t, l, 9) != s {
		t.Error("what lies behind the pixels is read")
	}
	want := asRead(l)
	got, _, err := Read(s)
	if err != nil || !sameFrames(got, want) {
		t.Fatal(err)
	}
	for i := range got {
		all := got[i].P.P[:cap(got[i].P.P)]
		for k := range all {
			all[k] = api.Pixel{A: 99}
		}
		for k := i + 1; k < len(got); k++ {
			if !same(got[k].P, want[k].P) {
				t.Error("two frames share memory")
			}
		}
	}
	isRead(t, "again", s, want, 9)
}

// Nothing is kept from call to call.
func TestEachCallByItself(t *testing.T) {
	m := mixer(15)
	var l [][]Frame
	var texts []string
	for range 20 {
		f := m.frames(m.between(1, 20), m.between(1, 20), m.between(2, 5))
		l, texts = append(l, f), append(texts, writes(t, f, 3))
	}
	for i := range l {
		k := len(l) - 1 - i
		isNotRead(t, k, texts[k][1:], api.ErrText)
		fails(t, k, nil, 0, api.ErrBound)
		if writes(t, l[k], 3) != texts[k] {
			t.Error("written otherwise again")
		}
		isRead(t, k, texts[k], asRead(l[k]), 3)
	}
}
