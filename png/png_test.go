package png

import (
	"bytes"
	"fmt"
	"image"
	"image/color"
	stdpng "image/png"
	"slices"
	"strings"
	"testing"

	"layercake/api"
	"layercake/chunk"
	"layercake/filter"
)

func samePicture(a, b api.Picture) bool {
	return a.Wide == b.Wide && a.High == b.High && slices.Equal(a.P, b.P)
}

func px(r, g, b, a uint8) api.Pixel { return api.Pixel{R: r, G: g, B: b, A: a} }

func reads(t *testing.T, s string, want api.Picture) {
	t.Helper()
	if got, err := Read(s); !samePicture(got, want) || err != nil {
		t.Errorf("Read(%s): %s, %v, want %s", short(s), shortPicture(got), err, shortPicture(want))
	}
}

// fails: with just that error, bare.
func fails(t *testing.T, s string, want error) {
	t.Helper()
	if got, err := Read(s); !samePicture(got, api.Picture{}) || err != want {
		t.Errorf("Read(%s): %s, %#v, want the bare %v", short(s), shortPicture(got), err, want)
	}
}

// readsAsSlow: Read answers as the slow reader does; it tells whether both read it.
func readsAsSlow(t *testing.T, l []chunk.Chunk) bool {
	t.Helper()
	want, err := slowRead(l)
	if err != nil {
		fails(t, slowFile(l...), err)
		return false
	}
	reads(t, slowFile(l...), want)
	return true
}

// writes: just the chunks that the slow writer tells, rows unpacked by the library; and it is read.
func writes(t *testing.T, p api.Picture) []chunk.Chunk {
	t.Helper()
	s, err := Write(p)
	if err != nil {
		t.Fatalf("Write(%s): %v", shortPicture(p), err)
	}
	l, err := chunk.Read(s)
	if err != nil {
		t.Fatalf("Write(%s): %s: %v", shortPicture(p), short(s), err)
	}
	want := slowChunks(p)
	if len(l) != len(want) {
		t.Fatalf("Write(%s): %d chunks, want %d", shortPicture(p), len(l), len(want))
	}
	for i, c := range l {
		if c.Kind == "IDAT" {
			l[i].Data = unzipped(c.Data)
		}
		if l[i] != want[i] {
			t.Errorf("Write(%s): chunk %d: %s %s, want %s %s", shortPicture(p), i, c.Kind, short(l[i].Data), want[i].Kind, short(want[i].Data))
		}
	}
	reads(t, s, p)
	return l
}

func notRight(t *testing.T, p api.Picture) {
	t.Helper()
	if s, err := Write(p); s != "" || err != api.ErrShape {
		t.Errorf("Write(%s): %s, %#v", shortPicture(p), short(s), err)
	}
}

// of so many unlike pixels, each of them at least once.
func ofUnlike(wide, high, many int) api.Picture {
	p := api.Picture{Wide: wide, High: high}
	for i := range wide * high {
		k := i % many
		p.P = append(p.P, api.Pixel{R: uint8(k * 7), G: uint8(k >> 8), B: uint8(k), A: uint8(255 - k%3)})
	}
	return p
}

// P100

func TestChunksByHand(t *testing.T) {
	red, clear, half := api.Pixel{R: 255, A: 255}, api.Pixel{}, api.Pixel{G: 9, A: 128}
	white, black := api.Pixel{R: 255, G: 255, B: 255, A: 255}, api.Pixel{A: 255}
	for _, c := range []struct {
		p api.Picture
		l []chunk.Chunk
	}{
		{
			api.Picture{Wide: 1, High: 1, P: []api.Pixel{red}},
			[]chunk.Chunk{{Kind: "IHDR", Data: "\x00\x00\x00\x01\x00\x00\x00\x01\x01\x03\x00\x00\x00"}, {Kind: "PLTE", Data: "\xff\x00\x00"}, {Kind: "IDAT", Data: "\x00\x00"}, {Kind: "IEND"}},
		}, {
			api.Picture{Wide: 1, High: 1, P: []api.Pixel{clear}},
			[]chunk.Chunk{{Kind: "IHDR", Data: "\x00\x00\x00\x01\x00\x00\x00\x01\x01\x03\x00\x00\x00"}, {Kind: "PLTE", Data: "\x00\x00\x00"}, {Kind: "tRNS", Data: "\x00"}, {Kind: "IDAT", Data: "\x00\x00"}, {Kind: "IEND"}},
		}, {
			api.Picture{Wide: 3, High: 2, P: []api.Pixel{red, half, red, white, half, white}},
			[]chunk.Chunk{{Kind: "IHDR", Data: "\x00\x00\x00\x03\x00\x00\x00\x02\x02\x03\x00\x00\x00"}, {Kind: "PLTE", Data: "\xff\x00\x00\x00\x09\x00\xff\xff\xff"}, {Kind: "tRNS", Data: "\xff\x80"}, {Kind: "IDAT", Data: "\x00\x10\x00\x98"}, {Kind: "IEND"}},
		}, {
			api.Picture{Wide: 9, High: 1, P: []api.Pixel{white, black, black, white, white, white, white, black, black}},
			[]chunk.Chunk{{Kind: "IHDR", Data: "\x00\x00\x00\x09\x00\x00\x00\x01\x01\x03\x00\x00\x00"}, {Kind: "PLTE", Data: "\xff\xff\xff\x00\x00\x00"}, {Kind: "IDAT", Data: "\x00\x61\x80"}, {Kind: "IEND"}},
		},
	} {
		if l := writes(t, c.p); !slices.Equal(l, c.l) {
			t.Errorf("Write(%s): %q, want %q", shortPicture(c.p), l, c.l)
		}
	}
	// 257 unlike ones in a row of 4 * 256 bytes and one of copies: a byte of its kind ahead of each.
	p := api.Picture{Wide: 256, High: 2}
	for i := range 512 {
		p.P = append(p.P, api.Pixel{R: uint8(i), G: uint8(i / 511), B: 1, A: 2})
	}
	l := writes(t, p)
	want := "\x01\x00\x00\x01\x02" + strings.Repeat("\x01\x00\x00\x00", 255) + "\x02" + strings.Repeat("\x00\x00\x00\x00", 255) + "\x00\x01\x00\x00"
	if l[0].Data != "\x00\x00\x01\x00\x00\x00\x00\x02\x08\x06\x00\x00\x00" || l[1].Data != want || len(l) != 3 {
		t.Errorf("%q", l)
	}
}

// The least depth for every count of unlike pixels, up to those that are too many for a list.
func TestEveryCount(t *testing.T) {
	for many := 1; many <= 270; many++ {
		l := writes(t, ofUnlike(17, 16, many))
		depth, kind := byte(8), byte(6)
		if many <= 256 {
			kind = 3
		}
		for _, d := range []byte{4, 2, 1} {
			if many <= 1<<d {
				depth = d
			}
		}
		if l[0].Data[8] != depth || l[0].Data[9] != kind {
			t.Errorf("%d: depth %d, type %d", many, l[0].Data[8], l[0].Data[9])
		}
	}
}

// Unlike is what differs in any of the four, whether it is seen or not.
func TestUnlike(t *testing.T) {
	base := api.Pixel{R: 1, G: 1, B: 1, A: 0}
	p := api.Picture{Wide: 5, High: 1, P: []api.Pixel{base, px(2, 1, 1, 0), px(1, 2, 1, 0), px(1, 1, 2, 0), px(1, 1, 1, 1)}}
	l := writes(t, p)
	if l[1].Data != "\x01\x01\x01\x02\x01\x01\x01\x02\x01\x01\x01\x02\x01\x01\x01" || l[2].Data != "\x00\x00\x00\x00\x01" {
		t.Errorf("%q", l)
	}
	// The same four numbers at other places.
	q := api.Picture{Wide: 2, High: 2, P: []api.Pixel{px(1, 2, 3, 4), px(4, 3, 2, 1), px(2, 1, 4, 3), px(3, 4, 1, 2)}}
	if l := writes(t, q); l[0].Data[8] != 2 {
		t.Errorf("%q", l)
	}
	// The last one of many makes them too many.
	r := ofUnlike(256, 256, 256)
	if l := writes(t, r); l[0].Data[9] != 3 {
		t.Errorf("%q", l[0])
	}
	r.P[len(r.P)-1].R++
	if l := writes(t, r); l[0].Data[9] != 6 {
		t.Errorf("%q", l[0])
	}
}

// tRNS: only if some A is below 255, and no further than the last of them.
func TestCovers(t *testing.T) {
	for _, many := range []int{1, 2, 3, 5, 16, 17, 255, 256} {
		for lowest := range many {
			p := api.Picture{Wide: many, High: 1}
			for i := range many {
				p.P = append(p.P, api.Pixel{R: uint8(i), A: 255})
			}
			if l := writes(t, p); l[2].Kind != "IDAT" {
				t.Errorf("%q", l)
			}
			p.P[lowest].A = uint8(254 - lowest%255)
			if l := writes(t, p); l[2].Kind != "tRNS" || len(l[2].Data) != lowest+1 {
				t.Errorf("%d: %q", lowest, l)
			}
			p.P[0].A = 0
			if l := writes(t, p); len(l[2].Data) != lowest+1 {
				t.Errorf("%d: %q", lowest, l)
			}
		}
	}
}

func TestSizes(t *testing.T) {
	m := mixer(1)
	for _, side := range [][2]int{{1, 1}, {1, 256}, {256, 1}, {2, 3}, {7, 5}, {8, 8}, {9, 2}, {15, 4}, {16, 3}, {17, 19}, {255, 2}, {256, 256}} {
		for _, many := range []int{1, 2, 3, 4, 5, 16, 17, 200, 5000} {
			writes(t, m.picture(side[0], side[1], many))
		}
	}
	// Nothing to pack: as long as a file gets.
	p := api.Picture{Wide: 256, High: 256}
	for range 256 * 256 {
		p.P = append(p.P, api.Pixel{R: uint8(m.below(256)), G: uint8(m.below(256)), B: uint8(m.below(256)), A: uint8(m.below(256))})
	}
	writes(t, p)
}

func TestNotRight(t *testing.T) {
	l := make([]api.Pixel, 256*257)
	for _, p := range []api.Picture{
		{},
		{P: l[:1]},
		{Wide: 1, High: 1},
		{Wide: 1, High: 1, P: l[:0]},
		{Wide: 1, High: 1, P: l[:2]},
		{Wide: 0, High: 1},
		{Wide: 1, High: 0},
		{Wide: -1, High: -1, P: l[:1]},
		{Wide: -1, High: 1, P: l[:1]},
		{Wide: 1, High: -1, P: l[:1]},
		{Wide: 257, High: 1, P: l[:257]},
		{Wide: 1, High: 257, P: l[:257]},
		{Wide: 257, High: 256, P: l},
		{Wide: 256, High: 257, P: l},
		{Wide: 5, High: 7, P: l[:34]},
		{Wide: 5, High: 7, P: l[:36]},
		{Wide: 256, High: 256, P: l[:256*256-1]},
		{Wide: 1 << 32, High: 1 << 32},
		{Wide: 1 << 62, High: 4},
		{Wide: -1 << 63, High: 2},
		{Wide: 1<<32 + 1, High: 1, P: l[:1]},
	} {
		notRight(t, p)
	}
}

// What lies behind a list's length is neither read nor written.
func TestBehindLength(t *testing.T) {
	l := []api.Pixel{px(1, 2, 3, 4), px(5, 6, 7, 8), px(9, 9, 9, 9)}
	p := api.Picture{Wide: 2, High: 1, P: l[:2]}
	writes(t, p)
	notRight(t, api.Picture{Wide: 3, High: 1, P: l[:2]})
	if !slices.Equal(l, []api.Pixel{px(1, 2, 3, 4), px(5, 6, 7, 8), px(9, 9, 9, 9)}) {
		t.Error(l)
	}
}

// The library reads what is written.
func TestLibraryReads(t *testing.T) {
	m := mixer(2)
	for _, many := range []int{1, 2, 3, 4, 5, 16, 17, 256, 3000} {
		p := m.picture(1+m.below(70), 1+m.below(70), many)
		s, err := Write(p)
		if err != nil {
			t.Fatal(err)
		}
		got, err := stdpng.Decode(strings.NewReader(s))
		if err != nil {
			t.Fatal(many, err)
		}
		if !samePicture(ofImage(got), p) {
			t.Errorf("%d: another picture", many)
		}
	}
}

func ofImage(g image.Image) api.Picture {
	p := api.Picture{Wide: g.Bounds().Dx(), High: g.Bounds().Dy()}
	for y := range p.High {
		for x := range p.Wide {
			c := color.NRGBAModel.Convert(g.At(x, y)).(color.NRGBA)
			// By the list itself: a turn into the library's other colors would lose what does not cover.
			if f, ok := g.(*image.Paletted); ok {
				if q, ok := f.Palette[f.ColorIndexAt(x, y)].(color.NRGBA); ok {
					c = q
				}
			}
			p.P = append(p.P, api.Pixel{R: c.R, G: c.G, B: c.B, A: c.A})
		}
	}
	return p
}

// P101

func TestReadByHand(t *testing.T) {
	for _, c := range []struct {
		l    []chunk.Chunk
		want []api.Pixel
	}{
		{[]chunk.Chunk{ihdr(2, 1, 8, 0), idat("\x01\x05\x02"), iend}, []api.Pixel{px(5, 5, 5, 255), px(7, 7, 7, 255)}},
		{[]chunk.Chunk{ihdr(2, 1, 8, 2), idat("\x01abc\x01\x01\x02"), iend}, []api.Pixel{px('a', 'b', 'c', 255), px('b', 'c', 'e', 255)}},
		{[]chunk.Chunk{ihdr(2, 1, 8, 6), idat("\x01abcd\x01\x01\x02\x9c"), iend}, []api.Pixel{px('a', 'b', 'c', 'd'), px('b', 'c', 'e', 0)}},
		{[]chunk.Chunk{ihdr(1, 2, 8, 2), idat("\x00abc\x02\x01\x00\xff"), iend}, []api.Pixel{px('a', 'b', 'c', 255), px('b', 'b', 'b', 255)}},
		{[]chunk.Chunk{ihdr(2, 1, 1, 3), plte("abcdef"), idat("\x00\x40"), iend}, []api.Pixel{px('a', 'b', 'c', 255), px('d', 'e', 'f', 255)}},
		{[]chunk.Chunk{ihdr(2, 1, 2, 3), plte("abcdefghi"), trns("\x01\x02"), idat("\x00\x90"), iend}, []api.Pixel{px('g', 'h', 'i', 255), px('d', 'e', 'f', 2)}},
		{[]chunk.Chunk{ihdr(2, 1, 4, 3), plte("abcdefghi"), trns("\x01\x02\x03"), idat("\x00\x20"), iend}, []api.Pixel{px('g', 'h', 'i', 3), px('a', 'b', 'c', 1)}},
		{[]chunk.Chunk{ihdr(2, 1, 8, 3), plte("abcdefghi"), trns(""), idat("\x01\x01\x01"), iend}, []api.Pixel{px('d', 'e', 'f', 255), px('g', 'h', 'i', 255)}},
		// Rows of numbers are foretold by bytes too, whatever the depth.
		{[]chunk.Chunk{ihdr(5, 1, 2, 3), plte("abcdefghijkl"), idat("\x01\x1b\x25"), iend}, []api.Pixel{px('a', 'b', 'c', 255), px('d', 'e', 'f', 255), px('g', 'h', 'i', 255), px('j', 'k', 'l', 255), px('d', 'e', 'f', 255)}},
		// A list of colors means nothing where pixels tell theirs; others are passed over.
		{[]chunk.Chunk{ihdr(1, 1, 8, 2), plte("xyz"), idat("\x00abc"), iend}, []api.Pixel{px('a', 'b', 'c', 255)}},
		{[]chunk.Chunk{ihdr(1, 1, 8, 6), {Kind: "teXt", Data: "a"}, plte("xyz"), {Kind: "iDAT"}, idat("\x00abcd"), {Kind: "zzzz"}, iend}, []api.Pixel{px('a', 'b', 'c', 'd')}},
	} {
		p := api.Picture{Wide: len(c.want), High: 1, P: c.want}
		if c.l[0].Data[7] == 2 {
			p.Wide, p.High = 1, 2
		}
		reads(t, slowFile(c.l...), p)
		if got, err := slowRead(c.l); err != nil || !samePicture(got, p) {
			t.Errorf("the slow one: %s, %v, want %s", shortPicture(got), err, shortPicture(p))
		}
	}
}

// chunk.Read's errors, with their places, ahead of all else.
func TestErrorsOfChunks(t *testing.T) {
	good, err := Write(ofUnlike(5, 5, 3))
	if err != nil {
		t.Fatal(err)
	}
	wrong := slowFile(ihdr(0, 0, 9, 9), plte(""), idat("a"))
	for _, s := range []string{
		"", "a", eight[:7], eight[1:] + good[8:], good[:len(good)-1], good + "\x00", good[:30] + "\x00" + good[31:],
		good[:12] + "ihd1" + good[16:], wrong + "x", wrong[:len(wrong)-1] + "\x00", slowFile(chunk.Chunk{Kind: "a b "}),
		eight + strings.Repeat("a", api.MaxBytes), good + strings.Repeat("\x00", api.MaxBytes),
	} {
		_, want := chunk.Read(s)
		got, err := Read(s)
		if want == nil || !samePicture(got, api.Picture{}) || fmt.Sprintf("%T", err) != fmt.Sprintf("%T", want) {
			t.Errorf("Read(%s): %s, %#v, want %#v", short(s), shortPicture(got), err, want)
			continue
		}
		if f, ok := want.(*api.Fault); ok && *f != *err.(*api.Fault) || !ok && err != want {
			t.Errorf("Read(%s): %#v, want %#v", short(s), err, want)
		}
	}
}

func TestFirstChunk(t *testing.T) {
	// Ahead of the bounds that the same chunk would break, and of all behind it.
	for _, l := range [][]chunk.Chunk{
		nil,
		{iend},
		{plte("abc"), ihdr(1, 1, 1, 3), idat("\x00\x00"), iend},
		{{Kind: "teXt"}, ihdr(1, 1, 8, 0), idat("\x00\x00"), iend},
		{{Kind: "IHDr", Data: ihdr(1, 1, 8, 0).Data}, idat("\x00\x00"), iend},
		{{Kind: "IHDR"}, idat("\x00\x00"), iend},
		{{Kind: "IHDR", Data: ihdr(1, 1, 8, 0).Data[:12]}, idat("\x00\x00"), iend},
		{{Kind: "IHDR", Data: ihdr(1, 1, 8, 0).Data + "\x00"}, idat("\x00\x00"), iend},
		{{Kind: "IHDR", Data: ihdr(0, 0, 8, 0).Data + "\x00"}, idat("\x00\x00"), iend},
		{{Kind: "IHDR", Data: ihdr(999, 1, 8, 0).Data[:8]}, idat("\x00\x00"), iend},
	} {
		fails(t, slowFile(l...), api.ErrText)
	}
	for n := range 30 {
		l := []chunk.Chunk{{Kind: "IHDR", Data: (ihdr(1, 1, 8, 0).Data + strings.Repeat("\x00", 30))[:n]}, idat("\x00\x07"), iend}
		if readsAsSlow(t, l) != (n == 13) {
			t.Errorf("a first chunk of %d bytes", n)
		}
	}
}

func TestSidesOfFiles(t *testing.T) {
	for _, side := range []int{0, 257, 258, 512, 65536, 65537, 1 << 24, 1<<24 + 1, 1<<31 - 1, 1 << 31, 1<<31 + 1, 1<<32 - 1, 1<<32 - 256} {
		for _, h := range []chunk.Chunk{ihdr(side, 1, 8, 0), ihdr(1, side, 8, 0), ihdr(side, side, 8, 0)} {
			fails(t, slowFile(h, idat("\x00\x00"), iend), api.ErrBound)
			// Ahead of what is wrong of the rest, also of the head's.
			fails(t, slowFile(h), api.ErrBound)
			fails(t, slowFile(h, h, plte("a")), api.ErrBound)
			other := chunk.Chunk{Kind: "IHDR", Data: h.Data[:8] + "\x07\x07\x07\x07\x07"}
			fails(t, slowFile(other, iend), api.ErrBound)
		}
	}
	m := mixer(3)
	for _, side := range [][2]int{{1, 1}, {1, 256}, {256, 1}, {256, 256}, {255, 3}} {
		raw := m.bytes(side[0] * side[1])
		l := []chunk.Chunk{ihdr(side[0], side[1], 8, 0), idat(slowRows(raw, side[0], 1, func(int) int { return 0 })), iend}
		if !readsAsSlow(t, l) {
			t.Error(side)
		}
	}
}

// Every depth with every type.
func TestDepthsAndTypes(t *testing.T) {
	known := 0
	for depth := range 256 {
		for kind := range 256 {
			l := []chunk.Chunk{ihdr(1, 1, depth, kind), bare("\x00\x00"), iend}
			if kind == 3 {
				l = slices.Insert(l, 1, plte("abc"))
			}
			switch kind {
			case 2:
				l[1] = bare("\x00abc")
			case 6:
				l[1] = bare("\x00abcd")
			}
			if readsAsSlow(t, l) {
				known++
			}
		}
	}
	if known != 7 {
		t.Errorf("%d are known", known)
	}
}

func TestThreeBytes(t *testing.T) {
	for place := 10; place < 13; place++ {
		for b := range 256 {
			data := []byte(ihdr(1, 1, 8, 0).Data)
			data[place] = byte(b)
			l := []chunk.Chunk{{Kind: "IHDR", Data: string(data)}, bare("\x00\x07"), iend}
			if readsAsSlow(t, l) != (b == 0) {
				t.Error(place, b)
			}
		}
	}
}

// Every row of up to five chunks behind the first one, for every type.
func TestOrderOfChunks(t *testing.T) {
	for _, c := range []struct{ depth, kind, want int }{{8, 0, 20}, {8, 2, 35}, {8, 6, 35}, {2, 3, 21}} {
		rows := zipped(map[int]string{0: "\x00a", 2: "\x00abc", 3: "\x00\x40", 6: "\x00abcd"}[c.kind])
		tooLong := zipped("\x00abcde")
		var good, all int
		var try func(l []chunk.Chunk)
		try = func(l []chunk.Chunk) {
			if readsAsSlow(t, withRows(l, rows)) {
				good++
			}
			all++
			// Ahead of what is wrong of the rows.
			if len(l) < 6 && readsAsSlow(t, withRows(l, tooLong)) {
				t.Error("rows that are too long are read")
			}
			if len(l) == 6 {
				return
			}
			for _, next := range []chunk.Chunk{ihdr(1, 1, c.depth, c.kind), plte("abcdef"), trns("\x01"), {Kind: "IDAT"}, iend, {Kind: "teXt"}, {Kind: "IDOT"}} {
				try(append(slices.Clone(l), next))
			}
		}
		try([]chunk.Chunk{ihdr(1, 1, c.depth, c.kind)})
		if all != 1+7+49+343+2401+16807 || good != c.want {
			t.Errorf("type %d: %d of %d are read, want %d", c.kind, good, all, c.want)
		}
	}
}

// withRows: packed rows, in equal parts, in the chunks that are for them.
func withRows(l []chunk.Chunk, packed string) []chunk.Chunk {
	l = slices.Clone(l)
	var at []int
	for i, c := range l {
		if c.Kind == "IDAT" {
			at = append(at, i)
		}
	}
	for n, i := range at {
		l[i].Data = packed[n*len(packed)/len(at) : (n+1)*len(packed)/len(at)]
	}
	return l
}

// A capital letter at the first place, and there alone, makes a kind that can't be passed over.
func TestOtherKinds(t *testing.T) {
	for _, kind := range []string{"ABCD", "Abcd", "Zzzz", "Plte", "PLTe", "IDAt", "Idat", "TRNS", "IENd", "IHDr", "Iend"} {
		for at := 1; at <= 2; at++ {
			l := slices.Insert([]chunk.Chunk{ihdr(1, 1, 8, 0), idat("\x00\x07"), iend}, at, chunk.Chunk{Kind: kind, Data: "a"})
			fails(t, slowFile(l...), api.ErrText)
		}
	}
	for _, kind := range []string{"aBCD", "zZZZ", "pLTE", "iDAT", "iEND", "iHDR", "trns", "tRNs", "aaaa", "zzzz"} {
		for at := 1; at <= 2; at++ {
			l := slices.Insert([]chunk.Chunk{ihdr(1, 1, 8, 0), idat("\x00\x07"), iend}, at, chunk.Chunk{Kind: kind, Data: "a"})
			if !readsAsSlow(t, l) {
				t.Error(kind, at)
			}
		}
	}
	fails(t, slowFile(ihdr(1, 1, 8, 0), idat("\x00\x07"), chunk.Chunk{Kind: "IEND", Data: "\x00"}), api.ErrText)
	fails(t, slowFile(ihdr(1, 1, 8, 0), idat("\x00\x07"), iend, chunk.Chunk{Kind: "teXt"}), api.ErrText)
}

// Every length of a list of colors, for every type that may have one.
func TestColorLists(t *testing.T) {
	for _, c := range []struct{ depth, kind, most int }{{1, 3, 2}, {2, 3, 4}, {4, 3, 16}, {8, 3, 256}, {8, 2, 256}, {8, 6, 256}} {
		rows := map[int]string{2: "\x00abc", 3: "\x00\x00", 6: "\x00abcd"}[c.kind]
		good := 0
		for n := range 3*257 + 5 {
			if readsAsSlow(t, []chunk.Chunk{ihdr(1, 1, c.depth, c.kind), plte(strings.Repeat("a", n)), bare(rows), iend}) {
				good++
			}
		}
		if good != c.most {
			t.Errorf("depth %d, type %d: %d lists are read", c.depth, c.kind, good)
		}
	}
	// As many bytes of tRNS as there are colors, not as there may be.
	for colors := 1; colors <= 16; colors++ {
		good := 0
		for n := range 20 {
			if readsAsSlow(t, []chunk.Chunk{ihdr(1, 1, 4, 3), plte(strings.Repeat("abc", colors)), trns(strings.Repeat("\x05", n)), bare("\x00\x00"), iend}) {
				good++
			}
		}
		if good != colors+1 {
			t.Errorf("%d colors: %d are read", colors, good)
		}
	}
	for _, kind := range []int{0, 2, 6} {
		rows := map[int]string{0: "\x00a", 2: "\x00abc", 6: "\x00abcd"}[kind]
		for _, s := range []string{"", "\x00", "\x00\x01", "\x00\x01\x02\x03\x04\x05"} {
			fails(t, slowFile(ihdr(1, 1, 8, kind), trns(s), bare(rows), iend), api.ErrText)
			fails(t, slowFile(ihdr(1, 1, 8, kind), plte("abcabc"), trns(s), bare(rows), iend), api.ErrText)
		}
	}
}

// Every number of a pixel, with every count of colors.
func TestNumbers(t *testing.T) {
	for _, depth := range []int{1, 2, 4, 8} {
		for colors := 1; colors <= 1<<depth; colors++ {
			if depth == 8 && colors > 3 && colors < 250 && colors%17 > 0 {
				continue
			}
			list := plte(strings.Repeat("abc", colors-1) + "xyz")
			for n := range 1 << depth {
				// At every place of a byte; what stands behind the last pixel means nothing.
				for place := range 8 / depth {
					up := 8 - depth - place*depth
					row := "\x00" + string([]byte{byte(n<<up | (1<<up - 1))})
					l := []chunk.Chunk{ihdr(place+1, 1, depth, 3), list, bare(row), iend}
					if readsAsSlow(t, l) != (n < colors) {
						t.Fatal(depth, colors, n, place)
					}
				}
			}
		}
	}
	// The last pixel of the last row, too.
	l := []chunk.Chunk{ihdr(2, 2, 8, 3), plte("abcdef"), bare("\x00\x00\x00\x00\x00\x02"), iend}
	fails(t, slowFile(l...), api.ErrText)
	l[2] = bare("\x00\x00\x00\x00\x00\x01")
	reads(t, slowFile(l...), api.Picture{Wide: 2, High: 2, P: []api.Pixel{px('a', 'b', 'c', 255), px('a', 'b', 'c', 255), px('a', 'b', 'c', 255), px('d', 'e', 'f', 255)}})
}

// inflate.Unzip's errors, behind all of the chunks'.
func TestErrorsOfRows(t *testing.T) {
	good := zipped("\x00abcdef")
	file := func(data string, more ...chunk.Chunk) string {
		l := append([]chunk.Chunk{ihdr(2, 1, 8, 2)}, more...)
		return slowFile(append(l, chunk.Chunk{Kind: "IDAT", Data: data}, iend)...)
	}
	reads(t, file(good), api.Picture{Wide: 2, High: 1, P: []api.Pixel{px('a', 'b', 'c', 255), px('d', 'e', 'f', 255)}})
	for _, c := range []struct {
		data string
		want error
	}{
		{"", api.ErrText},
		{"\x78", api.ErrText},
		{"\x78\x9d" + good[2:], api.ErrText},
		{good[:len(good)-1], api.ErrText},
		{good[:5], api.ErrText},
		{good + "\x00", api.ErrText},
		{good[:len(good)-1] + "\x00", api.ErrSum},
		{zipped(""), api.ErrText},
		{zipped("\x00"), api.ErrText},
		{zipped("\x00abcde"), api.ErrText},
		{zipped("\x00abcdefg"), api.ErrBound},
		{zipped("\x00abcdef\x00abcdef"), api.ErrBound},
		{zipped(strings.Repeat("\x00", api.MaxBytes*10)), api.ErrBound},
		{zipped("\x05abcdef"), api.ErrText},
		{zipped("\x05abcde"), api.ErrText},
		// Ahead of what is wrong of the rows.
		{zipped("\x05abcdefg"), api.ErrBound},
		{zipped("\x05abcde")[:10] + "\x00\x00\x00\x00\x00", api.ErrText},
	} {
		fails(t, file(c.data), c.want)
		// A chunk that is wrong comes ahead of it.
		fails(t, file(c.data, chunk.Chunk{Kind: "ABCD"}), api.ErrText)
	}
	spoilt := zipped("\x09abcdef")
	fails(t, file(spoilt[:len(spoilt)-1]+"\x00"), api.ErrSum)
	fewer := zipped("\x00abc")
	fails(t, file(fewer[:len(fewer)-1]+"\x00"), api.ErrSum)
}

// As many bytes as rows have, and no others: for every type, at every width of a byte's bits.
func TestCountsOfBytes(t *testing.T) {
	for _, c := range [][2]int{{8, 0}, {8, 2}, {8, 6}, {1, 3}, {2, 3}, {4, 3}, {8, 3}} {
		for wide := 1; wide <= 17; wide++ {
			for _, high := range []int{1, 2, 3} {
				bits := c[0] * map[int]int{0: 1, 2: 3, 3: 1, 6: 4}[c[1]]
				full := high * ((wide*bits+7)/8 + 1)
				for _, n := range []int{full - 1, full, full + 1} {
					l := []chunk.Chunk{ihdr(wide, high, c[0], c[1]), bare(strings.Repeat("\x00", n)), iend}
					if c[1] == 3 {
						l = slices.Insert(l, 1, plte("abc"))
					}
					want := map[int]error{full - 1: api.ErrText, full + 1: api.ErrBound}[n]
					if readsAsSlow(t, l) != (want == nil) {
						t.Error(c, wide, high, n-full)
					}
					if want != nil {
						fails(t, slowFile(l...), want)
					}
				}
			}
		}
	}
}

// A row's kind that is none, at each row: the error is bare, as no place is told.
func TestKindsOfRows(t *testing.T) {
	for y := range 3 {
		for kind := range 256 {
			rows := []byte("\x00ab\x00cd\x00ef")
			rows[3*y] = byte(kind)
			if readsAsSlow(t, []chunk.Chunk{ihdr(2, 3, 8, 0), bare(string(rows)), iend}) != (kind <= 4) {
				t.Error(y, kind)
			}
		}
	}
}

// Rows of all kinds, mixed, of every type: each is foretold by the step of a pixel's bytes.
func TestStepsOfTypes(t *testing.T) {
	m := mixer(4)
	for _, c := range []struct{ depth, kind, step int }{{8, 0, 1}, {8, 2, 3}, {8, 6, 4}, {1, 3, 1}, {2, 3, 1}, {4, 3, 1}, {8, 3, 1}} {
		for range 12 {
			wide, high := 1+m.below(40), 1+m.below(12)
			size := (wide*c.depth*map[int]int{0: 1, 2: 3, 3: 1, 6: 4}[c.kind] + 7) / 8
			raw := m.bytes(size * high)
			rows := slowRows(raw, size, c.step, func(int) int { return m.below(5) })
			if back, err := filter.Back(rows, size, c.step); back != raw || err != nil {
				t.Fatal("the rows are not as they should be", err)
			}
			l := []chunk.Chunk{ihdr(wide, high, c.depth, c.kind), idat(rows), iend}
			if c.kind == 3 {
				l = slices.Insert(l, 1, plte(m.bytes(3<<c.depth)), trns(m.bytes(m.below(1<<c.depth+1))))
			}
			if !readsAsSlow(t, l) {
				t.Error(c)
			}
			// Rows in parts, some of them empty.
			z := zipped(rows)
			cut := m.below(len(z) + 1)
			at := len(l) - 2
			l = slices.Replace(l, at, at+1, chunk.Chunk{Kind: "IDAT"}, chunk.Chunk{Kind: "IDAT", Data: z[:cut]}, chunk.Chunk{Kind: "IDAT"}, chunk.Chunk{Kind: "IDAT", Data: z[cut:]})
			if !readsAsSlow(t, l) {
				t.Error(c, cut)
			}
		}
	}
}

// What the library writes is read.
func TestLibraryWrites(t *testing.T) {
	m := mixer(5)
	for range 30 {
		r := image.Rect(0, 0, 1+m.below(60), 1+m.below(60))
		grey, all, opaque := image.NewGray(r), image.NewNRGBA(r), image.NewNRGBA(r)
		var list color.Palette
		for range 1 + m.below(1<<(1+m.below(8))) {
			x := m.pixel()
			list = append(list, color.NRGBA{R: x.R, G: x.G, B: x.B, A: x.A})
		}
		few := image.NewPaletted(r, list)
		for i := range r.Dx() * r.Dy() {
			grey.Pix[i] = byte(m.below(256))
			few.Pix[i] = byte(m.below(len(list)))
			x := api.Pixel{R: uint8(i), G: uint8(i / 7), B: uint8(m.below(9)), A: uint8(m.below(256))}
			copy(all.Pix[4*i:], []byte{x.R, x.G, x.B, x.A})
			copy(opaque.Pix[4*i:], []byte{x.R, x.G, x.B, 255})
		}
		for _, g := range []image.Image{grey, all, opaque, few} {
			var b bytes.Buffer
			if err := stdpng.Encode(&b, g); err != nil {
				t.Fatal(err)
			}
			reads(t, b.String(), ofImage(g))
		}
	}
}

// P102

func TestWrittenIsRead(t *testing.T) {
	m := mixer(6)
	for range 300 {
		p := m.picture(1+m.below(40), 1+m.below(40), 1+m.below(1<<m.below(11)))
		writes(t, p)
	}
}

// Each bit of a file turned: a picture or an error is told, and no other picture without one.
func TestOneBitTurned(t *testing.T) {
	for _, many := range []int{2, 5, 300} {
		p := ofUnlike(19, 17, many)
		s, err := Write(p)
		if err != nil {
			t.Fatal(err)
		}
		l := []byte(s)
		for at := range min(len(l), 900) {
			for bit := range 8 {
				l[at] ^= 1 << bit
				if got, err := Read(string(l)); err == nil || !samePicture(got, api.Picture{}) {
					t.Errorf("bit %d of byte %d turned: %s, %v", bit, at, shortPicture(got), err)
				}
				l[at] ^= 1 << bit
			}
		}
		reads(t, string(l), p)
	}
}

// P2, P4
func TestCallsAreApart(t *testing.T) {
	m := mixer(7)
	p, q := m.picture(9, 9, 5), m.picture(20, 20, 400)
	kept := slices.Clone(p.P)
	s, err := Write(p)
	if err != nil || !slices.Equal(p.P, kept) {
		t.Fatal("what was handed over is changed", err)
	}
	first, err := Read(s)
	if err != nil {
		t.Fatal(err)
	}
	for range 3 {
		notRight(t, api.Picture{Wide: 9, High: 8, P: p.P})
		fails(t, slowFile(iend), api.ErrText)
		writes(t, q)
		if again, err := Write(p); again != s || err != nil {
			t.Error("another file", err)
		}
		clear(first.P)
		reads(t, s, api.Picture{Wide: 9, High: 9, P: kept})
	}
}

func FuzzRead(f *testing.F) {
	m := mixer(8)
	for _, many := range []int{1, 3, 9, 40, 900} {
		s, _ := Write(m.picture(1+m.below(20), 1+m.below(20), many))
		f.Add(s)
	}
	f.Fuzz(func(t *testing.T, s string) {
		l, err := chunk.Read(s)
		if err != nil {
			// Sums are hard to guess: what follows the kinds is tried as chunks of its own.
			l = nil
			for _, part := range strings.SplitAfter(s, "I") {
				if len(part) > 5 {
					l = append(l, chunk.Chunk{Kind: "I" + part[:3], Data: part[3:]})
				}
			}
			if s, err := chunk.Write(l); err != nil || len(s) == 0 {
				return
			}
		}
		if readsAsSlow(t, l) {
			p, _ := Read(slowFile(l...))
			writes(t, p)
		}
	})
}
