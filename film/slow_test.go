package film

import (
	"bytes"
	"compress/zlib"
	"encoding/binary"
	"errors"
	"hash/crc32"
	"io"
	"regexp"
	"slices"
	"strings"

	"layercake/api"
	"layercake/chunk"
	"layercake/filter"
	"layercake/gif"
	"layercake/inflate"
)

// A second way for both calls, by the words of the document. The tests hold the package against it.

// mixer makes mixed numbers, the same ones at each run.
type mixer uint64

func (m *mixer) below(n int) int {
	*m = *m*6364136223846793005 + 1442695040888963407
	return int(*m>>33) % n
}

func (m *mixer) between(least, most int) int { return least + m.below(most-least+1) }

func (m *mixer) pixel() api.Pixel {
	return api.Pixel{R: uint8(m.below(256)), G: uint8(m.below(256)), B: uint8(m.below(256)), A: uint8(m.below(256))}
}

// picture of pixels that are taken from so many.
func (m *mixer) picture(wide, high, many int) api.Picture {
	var of []api.Pixel
	for range many {
		of = append(of, m.pixel())
	}
	p := api.Picture{Wide: wide, High: high}
	for range wide * high {
		p.P = append(p.P, of[m.below(many)])
	}
	return p
}

// smooth picture, whose rows are foretold well, by one kind or another.
func (m *mixer) smooth(wide, high int) api.Picture {
	p := api.Picture{Wide: wide, High: high}
	x, y := m.below(5), m.below(5)
	for i := range wide * high {
		n := i%wide*x + i/wide*y
		p.P = append(p.P, api.Pixel{R: uint8(n), G: uint8(n / 2), B: uint8(n + m.below(3)), A: uint8(255 - n)})
	}
	return p
}

func (m *mixer) frames(wide, high, many int) []gif.Frame {
	var l []gif.Frame
	for range many {
		p := m.smooth(wide, high)
		if m.below(2) == 0 {
			p = m.picture(wide, high, m.between(1, 300))
		}
		l = append(l, gif.Frame{P: p, Delay: m.below(65536)})
	}
	return l
}

func same(p, q api.Picture) bool {
	return p.Wide == q.Wide && p.High == q.High && slices.Equal(p.P, q.P)
}

func sameFrames(a, b []gif.Frame) bool {
	return slices.EqualFunc(a, b, func(f, g gif.Frame) bool { return f.Delay == g.Delay && same(f.P, g.P) })
}

// alike: both nil, or both an error with one place, or both bare.
func alike(a, b error) bool {
	var f, g *api.Fault
	if errors.As(a, &f) && errors.As(b, &g) {
		return *f == *g && a == error(f) && b == error(g)
	}
	return a == b
}

func slowRight(p api.Picture) bool {
	return p.Wide >= 1 && p.Wide <= 256 && p.High >= 1 && p.High <= 256 && len(p.P) == p.Wide*p.High
}

// slowError: P170's, word for word, without ErrColors.
func slowError(l []gif.Frame, loops int) error {
	if len(l) < 1 || len(l) > 16 || loops < 0 || loops > 65535 {
		return api.ErrBound
	}
	if slowRight(l[0].P) && len(l[0].P.P)*len(l) > 60000 {
		return api.ErrBound
	}
	for i, f := range l {
		if !slowRight(f.P) || f.P.Wide != l[0].P.Wide || f.P.High != l[0].P.High {
			return &api.Fault{At: i, Err: api.ErrShape}
		}
		if f.Delay < 0 || f.Delay > 65535 {
			return &api.Fault{At: i, Err: api.ErrBound}
		}
	}
	return nil
}

func four(l ...int) string {
	var b []byte
	for _, n := range l {
		b = binary.BigEndian.AppendUint32(b, uint32(n))
	}
	return string(b)
}

func two(l ...int) string {
	var b []byte
	for _, n := range l {
		b = binary.BigEndian.AppendUint16(b, uint16(n))
	}
	return string(b)
}

func slowFile(l []chunk.Chunk) string {
	var b strings.Builder
	b.WriteString("\x89PNG\r\n\x1a\n")
	for _, c := range l {
		b.WriteString(four(len(c.Data)) + c.Kind + c.Data + four(int(crc32.ChecksumIEEE([]byte(c.Kind+c.Data)))))
	}
	return b.String()
}

func zipped(s string) string {
	var b bytes.Buffer
	w := zlib.NewWriter(&b)
	io.WriteString(w, s)
	w.Close()
	return b.String()
}

func unzipped(s string) string {
	r, err := zlib.NewReader(strings.NewReader(s))
	if err != nil {
		return err.Error()
	}
	b, err := io.ReadAll(r)
	if err != nil {
		return err.Error()
	}
	return string(b)
}

func slowBytes(p api.Picture) string {
	var l []byte
	for _, x := range p.P {
		l = append(l, x.R, x.G, x.B, x.A)
	}
	return string(l)
}

// slowRows of a picture, not packed.
func slowRows(p api.Picture) string {
	s, err := filter.Rows(slowBytes(p), 4*p.Wide, 4)
	if err != nil {
		panic(err)
	}
	return s
}

// slowChunks of frames that may be: P180's words, with the rows as some way packs them.
func slowChunks(l []gif.Frame, loops int, pack func(string) string) []chunk.Chunk {
	wide, high := l[0].P.Wide, l[0].P.High
	list := []chunk.Chunk{
		{Kind: "IHDR", Data: four(wide, high) + "\x08\x06\x00\x00\x00"},
		{Kind: "acTL", Data: four(len(l), loops)},
		{Kind: "fcTL", Data: four(0, wide, high, 0, 0) + two(l[0].Delay, 100) + "\x00\x00"},
		{Kind: "IDAT", Data: pack(slowRows(l[0].P))},
	}
	for i := 1; i < len(l); i++ {
		list = append(list,
			chunk.Chunk{Kind: "fcTL", Data: four(2*i-1, wide, high, 0, 0) + two(l[i].Delay, 100) + "\x00\x00"},
			chunk.Chunk{Kind: "fdAT", Data: four(2*i) + pack(slowRows(l[i].P))})
	}
	return append(list, chunk.Chunk{Kind: "IEND"})
}

var kinds = regexp.MustCompile(`^IHDR acTL fcTL IDAT( fcTL fdAT){0,15} IEND$`)

// slowRead of chunks: P181's words, each number asked by itself.
func slowRead(l []chunk.Chunk) ([]gif.Frame, int, error) {
	var names []string
	for _, c := range l {
		names = append(names, c.Kind)
	}
	if !kinds.MatchString(strings.Join(names, " ")) {
		return nil, 0, api.ErrText
	}
	many := (len(l) - 3) / 2
	head, all := l[0].Data, l[1].Data
	if len(head) != 13 || head[8:] != "\x08\x06\x00\x00\x00" || len(all) != 8 || l[len(l)-1].Data != "" {
		return nil, 0, api.ErrText
	}
	at := func(s string, k int) int { return int(binary.BigEndian.Uint32([]byte(s[k:]))) }
	wide, high, loops := at(head, 0), at(head, 4), at(all, 4)
	if wide < 1 || wide > 256 || high < 1 || high > 256 || wide*high*many > 60000 || at(all, 0) != many || loops > 65535 {
		return nil, 0, api.ErrText
	}
	count := 0
	var frames []gif.Frame
	for i := 2; i < len(l)-1; i++ {
		d := l[i].Data
		if l[i].Kind != "IDAT" {
			if len(d) < 4 || at(d, 0) != count {
				return nil, 0, api.ErrText
			}
			count++
		}
		if l[i].Kind == "fcTL" {
			if len(d) != 26 || d[4:20] != head[:8]+strings.Repeat("\x00", 8) || d[22:] != "\x00\x64\x00\x00" {
				return nil, 0, api.ErrText
			}
			frames = append(frames, gif.Frame{P: api.Picture{Wide: wide, High: high}, Delay: int(d[20])*256 + int(d[21])})
		}
	}
	for i := range frames {
		d := l[3+2*i].Data
		if i > 0 {
			d = d[4:]
		}
		pixels, err := slowPixels(d, wide, high)
		if err != nil {
			return nil, 0, err
		}
		frames[i].P.P = pixels
	}
	return frames, loops, nil
}

// slowPixels of packed rows: row by row.
func slowPixels(packed string, wide, high int) ([]api.Pixel, error) {
	size := 4*wide + 1
	s, err := inflate.Unzip(packed, size*high)
	if err != nil {
		return nil, err
	}
	if len(s) != size*high {
		return nil, api.ErrText
	}
	var l []api.Pixel
	ahead := ""
	for y := range high {
		row := s[y*size : (y+1)*size]
		if row[0] > 4 {
			return nil, api.ErrText
		}
		if ahead, err = filter.Undo(int(row[0]), row[1:], ahead, 4); err != nil {
			return nil, err
		}
		for x := 0; x < len(ahead); x += 4 {
			l = append(l, api.Pixel{R: ahead[x], G: ahead[x+1], B: ahead[x+2], A: ahead[x+3]})
		}
	}
	return l, nil
}
