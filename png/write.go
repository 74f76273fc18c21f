package png

import (
	"layercake/api"
	"layercake/chunk"
	"layercake/deflate"
	"layercake/rows"
)

const coversAll = 255

// numbered pixels: the unlike ones, as they come first, and of each pixel the number of its like; only if these are few.
func numbered(pixels []api.Pixel) (unlike []api.Pixel, numbers []byte, few bool) {
	known := map[api.Pixel]int{}
	numberOf := func(p api.Pixel) int {
		n, ok := known[p]
		if !ok {
			n = len(unlike)
			known[p] = n
			unlike = append(unlike, p)
		}
		return n
	}
	for _, p := range pixels {
		n := numberOf(p)
		if n >= api.MaxColors {
			return nil, nil, false
		}
		numbers = append(numbers, byte(n))
	}
	return unlike, numbers, true
}

func writeNumbers(p api.Picture, unlike []api.Pixel, numbers []byte) (string, error) {
	h := head{p.Wide, p.High, depthFor(len(unlike)), byNumbers}
	between := []chunk.Chunk{{Kind: ofColors, Data: colorsText(unlike)}}
	if s := coversText(unlike); s != "" {
		between = append(between, chunk.Chunk{Kind: ofCovers, Data: s})
	}
	packed, err := deflate.Zip(numberRows(h, numbers))
	if err != nil {
		return "", err
	}
	return writeFile(h, between, packed)
}

// depthFor so many colors: the least that tells them apart.
func depthFor(count int) int {
	depth := 1
	for 1<<depth < count {
		depth *= 2
	}
	return depth
}

func colorsText(unlike []api.Pixel) string {
	l := make([]byte, 0, colorSize*len(unlike))
	for _, p := range unlike {
		l = append(l, p.R, p.G, p.B)
	}
	return string(l)
}

// coversText up to the last one that does not cover all: none, if all do.
func coversText(unlike []api.Pixel) string {
	var l []byte
	told := 0
	for i, p := range unlike {
		l = append(l, p.A)
		if p.A != coversAll {
			told = i + 1
		}
	}
	return string(l[:told])
}

// numberRows, each with the byte of its kind, that is 0, ahead.
func numberRows(h head, numbers []byte) string {
	size := h.rowSize() + 1
	l := make([]byte, h.high*size)
	for i, n := range numbers {
		at, up := h.placeOf(i % h.wide)
		l[i/h.wide*size+1+at] |= n << up
	}
	return string(l)
}

// placeOf a number in its row: the byte, and how far up it stands there.
func (h head) placeOf(x int) (at, up int) {
	bit := x * h.depth
	return bit / fullByte, fullByte - h.depth - bit%fullByte
}

func writeFull(p api.Picture) (string, error) {
	packed, err := rows.Pack(p)
	if err != nil {
		return "", err
	}
	return writeFile(head{p.Wide, p.High, fullByte, byAll}, nil, packed)
}

// writeFile with some chunks ahead of the rows. A picture's rows are never so many that they, or the file, would be too long.
func writeFile(h head, between []chunk.Chunk, packed string) (string, error) {
	l := append([]chunk.Chunk{{Kind: ofHead, Data: h.text()}}, between...)
	return chunk.Write(append(l, chunk.Chunk{Kind: ofRows, Data: packed}, chunk.Chunk{Kind: ofEnd}))
}
