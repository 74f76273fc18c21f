package gif

import (
	"strings"

	"layercake/api"
	"layercake/lzw"
	"layercake/shape"
)

// unreadable is thrown where a text cannot be read on: Read catches it, and nothing between has to hand errors up.
type unreadable struct{ error }

func throw(err error) { panic(unreadable{err}) }

// errorOf what was thrown.
func errorOf(caught any) error {
	if thrown, ok := caught.(unreadable); ok {
		return thrown.error
	}
	// Nothing else is thrown; but a text or an error is told always.
	return api.ErrText
}

// reader of a moving picture, by what is left of it.
type reader struct{ left string }

func newReader(s string) *reader {
	if len(s) > api.MaxBytes {
		throw(api.ErrBound)
	}
	return &reader{s}
}

// goesOn with a text? It is passed over, if so.
func (r *reader) goesOn(s string) bool {
	behind, ok := strings.CutPrefix(r.left, s)
	r.left = behind
	return ok
}

func (r *reader) pass(s string) {
	if !r.goesOn(s) {
		throw(api.ErrText)
	}
}

func (r *reader) take(n int) string {
	if n > len(r.left) {
		throw(api.ErrText)
	}
	s := r.left[:n]
	r.left = r.left[n:]
	return s
}

func (r *reader) byte() int { return int(r.take(1)[0]) }

func (r *reader) pair() int { return r.byte() + r.byte()<<ofByte }

func (r *reader) side() int {
	n := r.pair()
	if !shape.IsSide(n) {
		throw(api.ErrText)
	}
	return n
}

// frames of the whole text. No more of them are read than there may be, as each may be short, and of a great many pixels.
func (r *reader) frames() (l []Frame, loops int) {
	r.pass(ofFile)
	wide, high := r.side(), r.side()
	r.pass(behindSize)
	if r.goesOn(ofLoops) {
		loops = r.pair()
		r.pass(behindLoops)
	}
	for !r.goesOn(ofEnd) {
		if len(l) == api.MaxFrames {
			throw(api.ErrText)
		}
		l = append(l, r.frame(wide, high))
	}
	return l, loops
}

func (r *reader) frame(wide, high int) Frame {
	r.pass(ofFrame)
	covers, delay, clearOne := r.byte(), r.pair(), r.byte()
	r.pass(ofPicture + pair(wide) + pair(high))
	unlike := r.colors()
	if covers == coversSome && clearOne < len(unlike) {
		unlike[clearOne] = api.Pixel{}
	}
	return Frame{api.Picture{Wide: wide, High: high, P: r.pixels(unlike, wide*high)}, delay}
}

func (r *reader) colors() []api.Pixel {
	size := r.byte() - ofColors
	if size < 0 || size > greatest {
		throw(api.ErrText)
	}
	var l []api.Pixel
	for range roomOf(size) {
		s := r.take(colorSize)
		l = append(l, api.Pixel{R: s[0], G: s[1], B: s[2], A: opaque})
	}
	return l
}

func (r *reader) pixels(unlike []api.Pixel, most int) []api.Pixel {
	width := r.byte()
	packed, used, err := lzw.Join(r.left)
	if err != nil {
		throw(err)
	}
	r.take(used)
	numbers, _, err := lzw.Unpack(packed, width, most)
	if err != nil {
		// More than there are pixels are none of a frame, too.
		throw(api.ErrText)
	}
	l := make([]api.Pixel, 0, most)
	for i := range len(numbers) {
		n := int(numbers[i])
		if n >= len(unlike) {
			throw(api.ErrText)
		}
		l = append(l, unlike[n])
	}
	return l
}
