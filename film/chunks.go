package film

import (
	"slices"

	"layercake/chunk"
)

// Kinds of chunks.
const (
	ofHead      = "IHDR"
	ofFilm      = "acTL"
	ofFrame     = "fcTL"
	ofFirstRows = "IDAT"
	ofRows      = "fdAT"
	ofEnd       = "IEND"
)

// What stands in each film, whatever it shows.
const (
	behindSize  = "\x08\x06\x00\x00\x00"             // pixels by R, G, B and A
	atCorner    = "\x00\x00\x00\x00\x00\x00\x00\x00" // the left top one
	behindDelay = "\x00\x64\x00\x00"                 // it is told in hundredths
)

// Places of chunks, and of what their data tell.
const (
	firstFrame = 2 // behind what is told of the film
	perFrame   = 2
	aroundAll  = firstFrame + 1
	wideAt     = 0
	highAt     = 4
	loopsAt    = 4
	delayAt    = 20
)

const (
	full   = 4 // bytes of most numbers
	half   = 2
	ofByte = 8
)

// chunks of a film: those of its frames are numbered, but for the first one's rows, which all who read pictures take.
func (f film) chunks() []chunk.Chunk {
	size := number(f.wide, full) + number(f.high, full)
	l := []chunk.Chunk{
		{Kind: ofHead, Data: size + behindSize},
		{Kind: ofFilm, Data: number(len(f.frames), full) + number(f.loops, full)},
	}
	count := 0
	next := func() string {
		count++
		return number(count-1, full)
	}
	for i, x := range f.frames {
		l = append(l, chunk.Chunk{Kind: ofFrame, Data: next() + size + atCorner + number(x.delay, half) + behindDelay})
		if i == 0 {
			l = append(l, chunk.Chunk{Kind: ofFirstRows, Data: x.rows})
		} else {
			l = append(l, chunk.Chunk{Kind: ofRows, Data: next() + x.rows})
		}
	}
	return append(l, chunk.Chunk{Kind: ofEnd})
}

// filmOf chunks, if a film has just these. What it would have is looked up where it would stand; whether all else stands there too, its own chunks tell.
func filmOf(l []chunk.Chunk) (film, bool) {
	many := (len(l) - aroundAll) / perFrame
	if many < 1 {
		return film{}, false
	}
	f := film{
		wide:  numberIn(l[0].Data, wideAt, full),
		high:  numberIn(l[0].Data, highAt, full),
		loops: numberIn(l[1].Data, loopsAt, full),
	}
	for i := range many {
		told, packed := l[firstFrame+perFrame*i].Data, l[firstFrame+perFrame*i+1].Data
		if i > 0 {
			packed = packed[min(full, len(packed)):]
		}
		f.frames = append(f.frames, frame{numberIn(told, delayAt, half), packed})
	}
	return f, f.isSome() && slices.Equal(f.chunks(), l)
}

// number of so many bytes, the highest first.
func number(n, bytes int) string {
	l := make([]byte, bytes)
	for i := range bytes {
		l[bytes-1-i] = byte(n >> (ofByte * i))
	}
	return string(l)
}

// numberIn a text, from a place on; 0 if it ends ahead of that.
func numberIn(s string, at, bytes int) int {
	if len(s) < at+bytes {
		return 0
	}
	n := 0
	for i := range bytes {
		n = n<<ofByte | int(s[at+i])
	}
	return n
}
