package png

import (
	"strings"

	"layercake/api"
	"layercake/chunk"
)

// parts of a file that mean something: its head, and the data of the chunks between.
type parts struct {
	head
	colors, covers, packed string
}

func partsOf(l []chunk.Chunk) (parts, error) {
	if len(l) == 0 || l[0].Kind != ofHead || len(l[0].Data) != headSize {
		return parts{}, api.ErrText
	}
	h, err := readHead(l[0].Data)
	if err != nil {
		return parts{}, err
	}
	// Behind this the last chunk is not the first one: their kinds are unlike.
	if l[len(l)-1] != (chunk.Chunk{Kind: ofEnd}) {
		return parts{}, api.ErrText
	}
	f, ok := gathered(h, l[1:len(l)-1])
	if !ok {
		return parts{}, api.ErrText
	}
	return f, nil
}

// gathered data of the chunks between the first and the last one, if these may stand there so.
func gathered(h head, between []chunk.Chunk) (parts, bool) {
	for _, c := range between {
		if isCapital(c.Kind[0]) && c.Kind != ofColors && c.Kind != ofRows {
			return parts{}, false
		}
	}
	atColors, atCovers, atRows := places(between, ofColors), places(between, ofCovers), places(between, ofRows)
	ok := inOneRun(atRows) &&
		atMostOne(atColors, atRows[0]) && atMostOne(atCovers, atRows[0]) &&
		(h.kind != byNumbers || len(atColors) == 1) &&
		(h.kind != byGrey || len(atColors) == 0) &&
		(len(atCovers) == 0 || h.kind == byNumbers && atColors[0] < atCovers[0])
	if !ok {
		return parts{}, false
	}
	f := parts{h, joined(between, atColors), joined(between, atCovers), joined(between, atRows)}
	return f, (len(atColors) == 0 || f.hasColors()) && len(f.covers) <= len(f.colors)/colorSize
}

func isCapital(b byte) bool { return b >= 'A' && b <= 'Z' }

// places of the chunks of a kind.
func places(l []chunk.Chunk, kind string) []int {
	var at []int
	for i, c := range l {
		if c.Kind == kind {
			at = append(at, i)
		}
	}
	return at
}

// inOneRun: there are some, one behind the other.
func inOneRun(at []int) bool {
	return len(at) > 0 && at[len(at)-1]-at[0] == len(at)-1
}

func atMostOne(at []int, ahead int) bool {
	return len(at) == 0 || len(at) == 1 && at[0] < ahead
}

func joined(l []chunk.Chunk, at []int) string {
	var b strings.Builder
	for _, i := range at {
		b.WriteString(l[i].Data)
	}
	return b.String()
}

// hasColors: some whole ones, and not too many.
func (f parts) hasColors() bool {
	count := len(f.colors) / colorSize
	return count >= 1 && count <= f.mostColors() && len(f.colors)%colorSize == 0
}

// pixels of a picture, if each is one.
func (f parts) pixels(s string) ([]api.Pixel, bool) {
	if f.kind == byNumbers {
		return f.numberedPixels(s)
	}
	l := make([]api.Pixel, 0, f.wide*f.high)
	for at := 0; at < len(s); at += f.step() {
		l = append(l, f.pixel(s[at:]))
	}
	return l, true
}

// pixel with which a text begins.
func (f parts) pixel(s string) api.Pixel {
	switch f.kind {
	case byGrey:
		return api.Pixel{R: s[0], G: s[0], B: s[0], A: coversAll}
	case byColors:
		return api.Pixel{R: s[0], G: s[1], B: s[2], A: coversAll}
	}
	return api.Pixel{R: s[0], G: s[1], B: s[2], A: s[3]}
}

func (f parts) numberedPixels(s string) ([]api.Pixel, bool) {
	list := f.listed()
	l := make([]api.Pixel, 0, f.wide*f.high)
	for y := range f.high {
		row := s[y*f.rowSize():]
		for x := range f.wide {
			at, up := f.placeOf(x)
			n := int(row[at]>>up) & (1<<f.depth - 1)
			if n >= len(list) {
				return nil, false
			}
			l = append(l, list[n])
		}
	}
	return l, true
}

// listed colors, with how much each covers.
func (f parts) listed() []api.Pixel {
	var l []api.Pixel
	for i := range len(f.colors) / colorSize {
		c := f.colors[colorSize*i:]
		p := api.Pixel{R: c[0], G: c[1], B: c[2], A: coversAll}
		if i < len(f.covers) {
			p.A = f.covers[i]
		}
		l = append(l, p)
	}
	return l
}
