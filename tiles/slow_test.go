package tiles

import (
	"bytes"
	"compress/flate"
	"encoding/binary"
	"hash/crc32"
	"image"
	"io"

	"layercake/api"
)

// A second way to see a picture's tiles, as plain and slow as can be: each pixel is put to its tile. The tests hold the package against it. It takes only pictures that are right.

func slowTiles(p api.Picture) map[image.Point][]api.Pixel {
	l := map[image.Point][]api.Pixel{}
	for i, c := range p.P {
		to := image.Pt(i%p.Wide/16, i/p.Wide/16)
		l[to] = append(l[to], c)
	}
	return l
}

func slowPlain(p api.Picture) int {
	count := 0
	for _, l := range slowTiles(p) {
		unlike := map[api.Pixel]bool{}
		for _, c := range l {
			unlike[c] = true
		}
		if len(unlike) == 1 {
			count++
		}
	}
	return count
}

// slowChanged of two pictures of one size: pixel by pixel, then all tiles in order.
func slowChanged(p, q api.Picture) []api.Rect {
	unlike := map[image.Point]bool{}
	for i := range p.P {
		if p.P[i] != q.P[i] {
			unlike[image.Pt(i%p.Wide/16, i/p.Wide/16)] = true
		}
	}
	var l []api.Rect
	for y := range 16 {
		for x := range 16 {
			if unlike[image.Pt(x, y)] {
				r := image.Rect(16*x, 16*y, 16*x+16, 16*y+16).Intersect(image.Rect(0, 0, p.Wide, p.High))
				l = append(l, api.Rect{X: r.Min.X, Y: r.Min.Y, W: r.Dx(), H: r.Dy()})
			}
		}
	}
	return l
}

// packedBody of a packed grid: what stands between its size and its sum, unpacked by the library.
func packedBody(s string) string {
	text, err := io.ReadAll(flate.NewReader(bytes.NewReader([]byte(s[2 : len(s)-4]))))
	if err != nil {
		panic(err)
	}
	return string(text)
}

// slowPacked by the library: also what is too long for the program.
func slowPacked(s string) string {
	var b bytes.Buffer
	w, err := flate.NewWriter(&b, flate.BestCompression)
	if err != nil {
		panic(err)
	}
	if _, err := io.WriteString(w, s); err != nil {
		panic(err)
	}
	if err := w.Close(); err != nil {
		panic(err)
	}
	return b.String()
}

// summed: with a right sum behind it, whatever it is.
func summed(s string) string {
	return string(binary.BigEndian.AppendUint32([]byte(s), crc32.ChecksumIEEE([]byte(s))))
}
