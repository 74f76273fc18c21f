package gif

import (
	"errors"
	"slices"
	"strings"

	"layercake/api"
	"layercake/lzw"
)

// mixer makes mixed numbers, the same ones at each run.
type mixer uint64

func (m *mixer) below(n int) int {
	*m = *m*6364136223846793005 + 1442695040888963407
	return int(*m>>33) % n
}

func (m *mixer) between(least, most int) int { return least + m.below(most-least+1) }

func (m *mixer) color() api.Pixel {
	return api.Pixel{R: uint8(m.below(256)), G: uint8(m.below(256)), B: uint8(m.below(256)), A: 255}
}

// unlike colors that cover all.
func (m *mixer) unlike(many int) []api.Pixel {
	var l []api.Pixel
	for len(l) < many {
		if c := m.color(); !slices.Contains(l, c) {
			l = append(l, c)
		}
	}
	return l
}

// picture of such pixels: each of them at least once, if there is room.
func (m *mixer) picture(wide, high int, of []api.Pixel) api.Picture {
	p := api.Picture{Wide: wide, High: high}
	for i := range wide * high {
		if i < len(of) {
			p.P = append(p.P, of[i])
		} else {
			p.P = append(p.P, of[m.below(len(of))])
		}
	}
	for i := range p.P {
		k := m.below(i + 1)
		p.P[i], p.P[k] = p.P[k], p.P[i]
	}
	return p
}

// frame of so many colors, some pixels of which cover nothing, if so it is told.
func (m *mixer) frame(wide, high, many int, someClear bool) Frame {
	of := m.unlike(many)
	if someClear {
		of[m.below(many)] = api.Pixel{R: uint8(m.below(2)), G: uint8(m.below(2))}
	}
	return Frame{m.picture(wide, high, of), m.below(65536)}
}

func (m *mixer) frames(wide, high, many int) []Frame {
	var l []Frame
	for range many {
		l = append(l, m.frame(wide, high, m.between(1, min(256, wide*high)), m.below(2) == 0))
	}
	return l
}

func copied(p api.Picture) api.Picture {
	p.P = slices.Clone(p.P)
	return p
}

func same(p, q api.Picture) bool {
	return p.Wide == q.Wide && p.High == q.High && slices.Equal(p.P, q.P)
}

func sameFrames(a, b []Frame) bool {
	return slices.EqualFunc(a, b, func(f, g Frame) bool { return f.Delay == g.Delay && same(f.P, g.P) })
}

// asRead: what covers nothing is the zero pixel.
func asRead(l []Frame) []Frame {
	var read []Frame
	for _, f := range l {
		f.P = copied(f.P)
		for i, c := range f.P.P {
			if c.A == 0 {
				f.P.P[i] = api.Pixel{}
			}
		}
		read = append(read, f)
	}
	return read
}

func slowRight(p api.Picture) bool {
	return p.Wide >= 1 && p.Wide <= 256 && p.High >= 1 && p.High <= 256 && len(p.P) == p.Wide*p.High
}

// slowError: P170's, word for word.
func slowError(l []Frame, loops int) error {
	if len(l) < 1 || len(l) > 16 || loops < 0 || loops > 65535 {
		return api.ErrBound
	}
	if slowRight(l[0].P) && len(l[0].P.P)*len(l) > 60000 {
		return api.ErrBound
	}
	for i, f := range l {
		if err := slowFrameError(f, l[0]); err != nil {
			return &api.Fault{At: i, Err: err}
		}
	}
	return nil
}

func slowFrameError(f, first Frame) error {
	if !slowRight(f.P) || f.P.Wide != first.P.Wide || f.P.High != first.P.High {
		return api.ErrShape
	}
	if f.Delay < 0 || f.Delay > 65535 {
		return api.ErrBound
	}
	unlike, some := map[api.Pixel]struct{}{}, 0
	for _, c := range f.P.P {
		switch {
		case c.A == 255:
			unlike[c] = struct{}{}
		case c.A == 0:
			some = 1
		default:
			return api.ErrColors
		}
	}
	if len(unlike)+some > 256 {
		return api.ErrColors
	}
	return nil
}

// alike: both nil, or both an error with one place, or both bare.
func alike(a, b error) bool {
	var f, g *api.Fault
	if errors.As(a, &f) && errors.As(b, &g) {
		return *f == *g && a == error(f) && b == error(g)
	}
	return a == b
}

// pieces of a frame's text: each may be made another one, to see what Read tells of it.
type pieces struct {
	before, flags, delay, clearOne, between, sides, size, colors, width, blocks string
}

func (x pieces) text() string {
	return x.before + x.flags + x.delay + x.clearOne + x.between + x.sides + x.size + x.colors + x.width + x.blocks
}

// text of a moving picture, in pieces.
type whole struct {
	first, sides, behind, loops string
	frames                      []pieces
	last                        string
}

func (x whole) text() string {
	s := x.first + x.sides + x.behind + x.loops
	for _, f := range x.frames {
		s += f.text()
	}
	return s + x.last
}

func bytesOf(l ...int) string {
	var b strings.Builder
	for _, n := range l {
		b.WriteByte(byte(n))
	}
	return b.String()
}

// slowPieces: P171's words for a frame, number by number.
func slowPieces(f Frame) pieces {
	var unlike []api.Pixel
	var numbers []int
	clearOne := -1
	for _, c := range f.P.P {
		if c.A == 0 {
			c = api.Pixel{}
		}
		n := slices.Index(unlike, c)
		if n < 0 {
			n = len(unlike)
			unlike = append(unlike, c)
		}
		if c.A == 0 {
			clearOne = n
		}
		numbers = append(numbers, n)
	}
	var colors []int
	for _, c := range unlike {
		colors = append(colors, int(c.R), int(c.G), int(c.B))
	}
	return slowForm(f, numbers, colors, clearOne)
}

// slowForm of a frame, whatever its colors are.
func slowForm(f Frame, numbers, colors []int, clearOne int) pieces {
	size, room := 0, 2
	for room < len(colors)/3 {
		size, room = size+1, room*2
	}
	for len(colors) < 3*room {
		colors = append(colors, 0)
	}
	width := size + 1
	if width < 2 {
		width = 2
	}
	packed, err := lzw.Pack(bytesOf(numbers...), width)
	if err != nil {
		panic(err)
	}
	flags := 8
	if clearOne >= 0 {
		flags = 9
	} else {
		clearOne = 0
	}
	return pieces{
		before: bytesOf(33, 249, 4), flags: bytesOf(flags), delay: bytesOf(f.Delay%256, f.Delay/256),
		clearOne: bytesOf(clearOne), between: bytesOf(0, 44, 0, 0, 0, 0), sides: slowSides(f.P),
		size: bytesOf(128 + size), colors: bytesOf(colors...), width: bytesOf(width), blocks: lzw.Blocks(packed),
	}
}

func slowSides(p api.Picture) string {
	return bytesOf(p.Wide%256, p.Wide/256, p.High%256, p.High/256)
}

func slowWhole(l []Frame, loops int) whole {
	x := whole{first: "GIF89a", sides: slowSides(l[0].P), behind: bytesOf(112, 0, 0), last: bytesOf(59)}
	if len(l) > 1 {
		x.loops = slowLoops(loops)
	}
	for _, f := range l {
		x.frames = append(x.frames, slowPieces(f))
	}
	return x
}

func slowLoops(loops int) string {
	return bytesOf(33, 255, 11) + "NETSCAPE2.0" + bytesOf(3, 1, loops%256, loops/256, 0)
}
