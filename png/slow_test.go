package png

import (
	"bytes"
	"compress/zlib"
	"encoding/binary"
	"fmt"
	"hash/adler32"
	"hash/crc32"
	"io"
	"regexp"
	"slices"
	"strings"

	"layercake/api"
	"layercake/chunk"
	"layercake/inflate"
)

// A second way for both calls, as plain and slow as can be, by the words of the document. The tests hold the package against it.

const eight = "\x89PNG\r\n\x1a\n"

// mixer makes mixed numbers, the same ones at each run.
type mixer uint64

func (m *mixer) below(n int) int {
	*m = *m*6364136223846793005 + 1442695040888963407
	return int(*m>>33) % n
}

func (m *mixer) bytes(n int) string {
	l := make([]byte, n)
	for i := range l {
		l[i] = byte(m.below(256))
	}
	return string(l)
}

func (m *mixer) pixel() api.Pixel {
	p := api.Pixel{R: uint8(m.below(256)), G: uint8(m.below(256)), B: uint8(m.below(256)), A: 255}
	if m.below(3) == 0 {
		p.A = uint8(m.below(256))
	}
	return p
}

// picture of pixels that are taken from so many.
func (m *mixer) picture(wide, high, many int) api.Picture {
	l := make([]api.Pixel, many)
	for i := range l {
		l[i] = m.pixel()
	}
	p := api.Picture{Wide: wide, High: high}
	for range wide * high {
		p.P = append(p.P, l[m.below(many)])
	}
	return p
}

func bigEndian(n int) string {
	return string(binary.BigEndian.AppendUint32(nil, uint32(n)))
}

func slowFile(l ...chunk.Chunk) string {
	s := eight
	for _, c := range l {
		s += bigEndian(len(c.Data)) + c.Kind + c.Data + bigEndian(int(crc32.ChecksumIEEE([]byte(c.Kind+c.Data))))
	}
	return s
}

func ihdr(wide, high, depth, kind int) chunk.Chunk {
	return chunk.Chunk{Kind: "IHDR", Data: bigEndian(wide) + bigEndian(high) + string([]byte{byte(depth), byte(kind), 0, 0, 0})}
}

func plte(s string) chunk.Chunk { return chunk.Chunk{Kind: "PLTE", Data: s} }
func trns(s string) chunk.Chunk { return chunk.Chunk{Kind: "tRNS", Data: s} }
func idat(s string) chunk.Chunk { return chunk.Chunk{Kind: "IDAT", Data: zipped(s)} }

// bare rows: stored, as the library's packer is slow to begin.
func bare(s string) chunk.Chunk {
	size := string(binary.LittleEndian.AppendUint16(nil, uint16(len(s)))) + string(binary.LittleEndian.AppendUint16(nil, ^uint16(len(s))))
	return chunk.Chunk{Kind: "IDAT", Data: "\x78\x01\x01" + size + s + bigEndian(int(adler32.Checksum([]byte(s))))}
}

var iend = chunk.Chunk{Kind: "IEND"}

func zipped(s string) string {
	var b bytes.Buffer
	w := zlib.NewWriter(&b)
	io.WriteString(w, s)
	w.Close()
	return b.String()
}

func unzipped(s string) string {
	r, err := zlib.NewReader(strings.NewReader(s))
	if err != nil {
		return err.Error()
	}
	b, err := io.ReadAll(r)
	if err != nil {
		return err.Error()
	}
	return string(b)
}

func slowAbs(n int) int {
	if n < 0 {
		return -n
	}
	return n
}

// slowForetold byte, by what stands a step back, ahead, and a step back from that.
func slowForetold(kind, a, b, c int) int {
	switch kind {
	case 1:
		return a
	case 2:
		return b
	case 3:
		return (a + b) / 2
	case 4:
		da, db, dc := slowAbs(b-c), slowAbs(a-c), slowAbs(a+b-2*c)
		if da <= db && da <= dc {
			return a
		}
		if db <= dc {
			return b
		}
		return c
	}
	return 0
}

// slowRow of raw bytes by a kind.
func slowRow(kind int, raw string, from, wide, step int) string {
	at := func(i, back int) int {
		if i-back < 0 || from+i-back < 0 {
			return 0
		}
		return int(raw[from+i-back])
	}
	up := func(i, back int) int {
		if i-back < 0 || from == 0 {
			return 0
		}
		return int(raw[from-wide+i-back])
	}
	l := []byte{byte(kind)}
	for i := range wide {
		l = append(l, byte(at(i, 0)-slowForetold(kind, at(i, step), up(i, 0), up(i, step))))
	}
	return string(l)
}

// slowRows of raw bytes, each by the kind that is told for it.
func slowRows(raw string, wide, step int, kindOf func(y int) int) string {
	s := ""
	for y := range len(raw) / wide {
		s += slowRow(kindOf(y), raw, y*wide, wide, step)
	}
	return s
}

// slowBest kind of a row.
func slowBest(raw string, y, wide, step int) int {
	var sums []int
	for kind := range 5 {
		sum := 0
		for _, b := range []byte(slowRow(kind, raw, y*wide, wide, step)[1:]) {
			sum += slowAbs(int(int8(b)))
		}
		sums = append(sums, sum)
	}
	return slices.Index(sums, slices.Min(sums))
}

// slowChunks of a picture, with the rows not packed.
func slowChunks(p api.Picture) []chunk.Chunk {
	var unlike []api.Pixel
	for _, x := range p.P {
		if len(unlike) <= 256 && !slices.Contains(unlike, x) {
			unlike = append(unlike, x)
		}
	}
	if len(unlike) > 256 {
		var l []byte
		for _, x := range p.P {
			l = append(l, x.R, x.G, x.B, x.A)
		}
		raw := string(l)
		rows := slowRows(raw, 4*p.Wide, 4, func(y int) int { return slowBest(raw, y, 4*p.Wide, 4) })
		return []chunk.Chunk{ihdr(p.Wide, p.High, 8, 6), {Kind: "IDAT", Data: rows}, iend}
	}
	depth := map[bool]int{true: 8}[len(unlike) > 16]
	for _, d := range []int{4, 2, 1} {
		if len(unlike) <= 1<<d {
			depth = d
		}
	}
	colors, covers := "", ""
	for _, x := range unlike {
		colors += string([]byte{x.R, x.G, x.B})
		covers += string([]byte{x.A})
	}
	l := []chunk.Chunk{ihdr(p.Wide, p.High, depth, 3), plte(colors)}
	for strings.HasSuffix(covers, "\xff") {
		covers = covers[:len(covers)-1]
	}
	if covers != "" {
		l = append(l, trns(covers))
	}
	rows := ""
	for y := range p.High {
		binary := ""
		for _, x := range p.P[y*p.Wide : (y+1)*p.Wide] {
			binary += fmt.Sprintf("%0*b", depth, slices.Index(unlike, x))
		}
		rows += "\x00" + ofBits(binary)
	}
	return append(l, chunk.Chunk{Kind: "IDAT", Data: rows}, iend)
}

// ofBits that are written out: bytes, with 0 behind.
func ofBits(s string) string {
	var l []byte
	for len(s) > 0 {
		var b byte
		s += "0000000"[:(8-len(s)%8)%8]
		fmt.Sscanf(s[:8], "%b", &b)
		l, s = append(l, b), s[8:]
	}
	return string(l)
}

// slowRead: the picture, or the error; of a file whose chunks can be read.
func slowRead(l []chunk.Chunk) (api.Picture, error) {
	if len(l) == 0 || l[0].Kind != "IHDR" || len(l[0].Data) != 13 {
		return api.Picture{}, api.ErrText
	}
	head := l[0].Data
	wide, high := binary.BigEndian.Uint32([]byte(head)), binary.BigEndian.Uint32([]byte(head[4:]))
	if wide < 1 || wide > 256 || high < 1 || high > 256 {
		return api.Picture{}, api.ErrBound
	}
	depth, kind := int(head[8]), int(head[9])
	data := map[string]string{}
	for _, c := range l {
		data[c.Kind] += c.Data
	}
	if !slowStands(l, depth, kind) || head[10:] != "\x00\x00\x00" || data["IEND"] != "" {
		return api.Picture{}, api.ErrText
	}
	perPixel := map[int]int{0: 8, 2: 24, 3: depth, 6: 32}[kind]
	size := (int(wide)*perPixel + 7) / 8
	text, err := inflate.Unzip(data["IDAT"], int(high)*(size+1))
	if err != nil {
		return api.Picture{}, err
	}
	raw := slowBack(text, size, max(1, perPixel/8))
	if len(raw) != int(high)*size {
		return api.Picture{}, api.ErrText
	}
	p := api.Picture{Wide: int(wide), High: int(high)}
	for y := range int(high) {
		row := ""
		for _, b := range []byte(raw[y*size : (y+1)*size]) {
			row += fmt.Sprintf("%08b", b)
		}
		for x := range int(wide) {
			q, ok := slowPixel(row[x*perPixel:(x+1)*perPixel], kind, data["PLTE"], data["tRNS"])
			if !ok {
				return api.Picture{}, api.ErrText
			}
			p.P = append(p.P, q)
		}
	}
	return p, nil
}

// slowStands: chunks as letters, that a pattern is asked of.
func slowStands(l []chunk.Chunk, depth, kind int) bool {
	letters := ""
	for _, c := range l {
		switch c.Kind {
		case "IHDR", "IDAT", "IEND", "PLTE":
			letters += c.Kind[1:2]
		case "tRNS":
			letters += "t"
		default:
			letters += map[bool]string{true: "X", false: "o"}[c.Kind[0] < 'a']
		}
		switch colors := 1 << min(8, max(depth, map[bool]int{true: 0, false: 8}[kind == 3])); {
		case c.Kind == "PLTE" && (c.Data == "" || len(c.Data)%3 != 0 || len(c.Data) > 3*colors):
			return false
		case c.Kind == "tRNS" && slices.ContainsFunc(l, func(d chunk.Chunk) bool { return d.Kind == "PLTE" && len(c.Data) > len(d.Data)/3 }):
			return false
		}
	}
	pattern := map[string]string{
		"8 0": `^Ho*D+o*E$`, "8 2": `^Ho*(Lo*)?D+o*E$`, "8 6": `^Ho*(Lo*)?D+o*E$`,
		"1 3": `^Ho*Lo*(to*)?D+o*E$`, "2 3": `^Ho*Lo*(to*)?D+o*E$`, "4 3": `^Ho*Lo*(to*)?D+o*E$`, "8 3": `^Ho*Lo*(to*)?D+o*E$`,
	}[fmt.Sprint(depth, " ", kind)]
	return pattern != "" && regexp.MustCompile(pattern).MatchString(letters)
}

// slowBack of rows: as far as their kinds are some.
func slowBack(text string, wide, step int) string {
	var raw []byte
	for y := range len(text) / (wide + 1) {
		row := text[y*(wide+1) : (y+1)*(wide+1)]
		if row[0] > 4 {
			break
		}
		for i, b := range []byte(row[1:]) {
			a, up, c := 0, 0, 0
			if i >= step {
				a = int(raw[y*wide+i-step])
			}
			if y > 0 {
				up = int(raw[(y-1)*wide+i])
			}
			if i >= step && y > 0 {
				c = int(raw[(y-1)*wide+i-step])
			}
			raw = append(raw, b+byte(slowForetold(int(row[0]), a, up, c)))
		}
	}
	return string(raw)
}

func slowPixel(bits string, kind int, colors, covers string) (api.Pixel, bool) {
	l := []byte(ofBits(bits))
	switch kind {
	case 0:
		return api.Pixel{R: l[0], G: l[0], B: l[0], A: 255}, true
	case 2:
		return api.Pixel{R: l[0], G: l[1], B: l[2], A: 255}, true
	case 6:
		return api.Pixel{R: l[0], G: l[1], B: l[2], A: l[3]}, true
	}
	n := 0
	fmt.Sscanf(bits, "%b", &n)
	if n >= len(colors)/3 {
		return api.Pixel{}, false
	}
	covers += strings.Repeat("\xff", 256)
	return api.Pixel{R: colors[3*n], G: colors[3*n+1], B: colors[3*n+2], A: covers[n]}, true
}

func short(s string) string {
	if len(s) > 90 {
		return fmt.Sprintf("%q.. (%d)", s[:90], len(s))
	}
	return fmt.Sprintf("%q", s)
}

func shortPicture(p api.Picture) string {
	return fmt.Sprintf("%d %d %v (%d)", p.Wide, p.High, p.P[:min(len(p.P), 8)], len(p.P))
}
