package gif

import (
	"slices"
	"strings"

	"layercake/api"
	"layercake/colors"
	"layercake/lzw"
)

// frame as it is told: its unlike pixels, and of each pixel the number of its like.
type frame struct {
	wide, high, delay int
	unlike            []api.Pixel
	numbers           []int
}

// frameOf one that was checked, if its colors are few.
func frameOf(f Frame) (frame, error) {
	p, ok := allOrNothing(f.P)
	if !ok {
		return frame{}, api.ErrColors
	}
	unlike, numbers, err := colors.Exact(p, api.MaxColors)
	if err != nil {
		return frame{}, err
	}
	return frame{p.Wide, p.High, f.Delay, unlike, numbers}, nil
}

// allOrNothing is what each pixel covers, if ok. Those that cover nothing become one and the same: what color they have is not to be seen.
func allOrNothing(p api.Picture) (seen api.Picture, ok bool) {
	l := make([]api.Pixel, len(p.P))
	for i, c := range p.P {
		switch c.A {
		case 0:
		case opaque:
			l[i] = c
		default:
			return api.Picture{}, false
		}
	}
	return api.Picture{Wide: p.Wide, High: p.High, P: l}, true
}

func written(l []frame, loops int) (string, error) {
	var b strings.Builder
	b.WriteString(ofFile + l[0].sides() + behindSize)
	if len(l) > 1 {
		b.WriteString(ofLoops + pair(loops) + behindLoops)
	}
	for _, f := range l {
		s, err := f.text()
		if err != nil {
			return "", err
		}
		b.WriteString(s)
	}
	b.WriteString(ofEnd)
	return b.String(), nil
}

func (f frame) sides() string { return pair(f.wide) + pair(f.high) }

// text of a frame. Its numbers have bits enough, and there are not too many: so they can be packed.
func (f frame) text() (string, error) {
	covers, clearOne := byte(coversAll), 0
	if n := slices.Index(f.unlike, api.Pixel{}); n >= 0 {
		covers, clearOne = coversSome, n
	}
	width := max(f.size()+1, narrowest)
	packed, err := lzw.Pack(f.numbersText(), width)
	if err != nil {
		return "", err
	}
	return ofFrame + string([]byte{covers}) + pair(f.delay) + string([]byte{byte(clearOne)}) +
		ofPicture + f.sides() + string([]byte{ofColors + byte(f.size())}) + f.colorsText() +
		string([]byte{byte(width)}) + lzw.Blocks(packed), nil
}

// size of the list of colors: the least that has room for them.
func (f frame) size() int {
	size := 0
	for roomOf(size) < len(f.unlike) {
		size++
	}
	return size
}

func (f frame) colorsText() string {
	l := make([]byte, colorSize*roomOf(f.size()))
	for i, c := range f.unlike {
		copy(l[colorSize*i:], []byte{c.R, c.G, c.B})
	}
	return string(l)
}

func (f frame) numbersText() string {
	l := make([]byte, 0, len(f.numbers))
	for _, n := range f.numbers {
		l = append(l, byte(n))
	}
	return string(l)
}
