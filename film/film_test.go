package film

import (
	"bytes"
	"errors"
	"hash/adler32"
	"image/color"
	stdpng "image/png"
	"math"
	"slices"
	"strings"
	"testing"
	"time"

	"layercake/api"
	"layercake/chunk"
	"layercake/deflate"
	"layercake/gif"
	"layercake/png"
)

var red = api.Pixel{R: 255, A: 255}

func colored(wide, high int, c api.Pixel) api.Picture {
	return api.Picture{Wide: wide, High: high, P: slices.Repeat([]api.Pixel{c}, wide*high)}
}

func repeated(f gif.Frame, many int) []gif.Frame {
	l := slices.Repeat([]gif.Frame{f}, many)
	for i := range l {
		l[i].P.P = slices.Clone(f.P.P)
	}
	return l
}

func writes(t *testing.T, l []gif.Frame, loops int) string {
	t.Helper()
	s, err := Write(l, loops)
	if err != nil {
		t.Fatalf("%d frames: %v", len(l), err)
	}
	return s
}

// fails with just that error.
func fails(t *testing.T, name any, l []gif.Frame, loops int, want error) {
	t.Helper()
	if s, err := Write(l, loops); s != "" || !alike(err, want) {
		t.Errorf("%v: %d bytes, %#v, want %#v", name, len(s), err, want)
	}
}

func failsAt(t *testing.T, name any, l []gif.Frame, at int, want error) {
	t.Helper()
	fails(t, name, l, 0, &api.Fault{At: at, Err: want})
}

func isRead(t *testing.T, name any, s string, want []gif.Frame, loops int) {
	t.Helper()
	if l, n, err := Read(s); !sameFrames(l, want) || n != loops || err != nil {
		t.Errorf("%v: %d frames, %d, %v", name, len(l), n, err)
	}
}

func isNotRead(t *testing.T, name any, s string, want error) {
	t.Helper()
	if l, n, err := Read(s); len(l) != 0 || n != 0 || !alike(err, want) {
		t.Errorf("%v: %d frames, %d, %#v, want %#v", name, len(l), n, err, want)
	}
}

// chunksNotRead: bare.
func chunksNotRead(t *testing.T, name any, l []chunk.Chunk, want error) {
	t.Helper()
	isNotRead(t, name, slowFile(l), want)
}

// readsAsSlow: Read answers as the slow reader does; it tells whether both read it.
func readsAsSlow(t *testing.T, name any, l []chunk.Chunk) bool {
	t.Helper()
	want, loops, err := slowRead(l)
	if err != nil {
		chunksNotRead(t, name, l, err)
		return false
	}
	isRead(t, name, slowFile(l), want, loops)
	return true
}

// bare chunks: those that hold rows have them unpacked.
func bare(t *testing.T, s string) []chunk.Chunk {
	t.Helper()
	l, err := chunk.Read(s)
	if err != nil {
		t.Fatal(err)
	}
	for i, c := range l {
		switch c.Kind {
		case "IDAT":
			l[i].Data = unzipped(c.Data)
		case "fdAT":
			l[i].Data = c.Data[:4] + unzipped(c.Data[4:])
		}
	}
	return l
}

func asIs(s string) string { return s }

// stored: packed by others, and not at all.
func stored(s string) string {
	packed, err := deflate.Stored(s)
	if err != nil {
		panic(err)
	}
	return "\x78\x01" + packed + four(int(adler32.Checksum([]byte(s))))
}

// P180

func TestHowManyFrames(t *testing.T) {
	good := gif.Frame{P: colored(2, 3, red)}
	for n := range 40 {
		if l := repeated(good, n); n >= 1 && n <= 16 {
			writes(t, l, 0)
		} else {
			fails(t, n, l, 0, api.ErrBound)
			// Whatever the frames are.
			fails(t, n, make([]gif.Frame, n), 0, api.ErrBound)
		}
	}
	fails(t, "nil", nil, 0, api.ErrBound)
	fails(t, "nil, and loops", nil, -1, api.ErrBound)
}

func TestLoops(t *testing.T) {
	for many := 1; many <= 16; many++ {
		l := repeated(gif.Frame{P: colored(2, 3, red)}, many)
		for _, loops := range []int{0, 1, 255, 256, 65534, 65535} {
			// Also of one frame.
			isRead(t, loops, writes(t, l, loops), l, loops)
		}
		for _, loops := range []int{math.MinInt, -65536, -1, 65536, 65537, 1 << 32, math.MaxInt} {
			fails(t, loops, l, loops, api.ErrBound)
			fails(t, loops, make([]gif.Frame, many), loops, api.ErrBound)
		}
	}
}

func TestHowManyPixels(t *testing.T) {
	for _, c := range []struct{ wide, high int }{{256, 234}, {240, 250}, {256, 235}, {241, 249}, {256, 256}, {200, 150}, {125, 30}, {121, 31}, {1, 1}, {256, 1}} {
		good := gif.Frame{P: colored(c.wide, c.high, red)}
		for _, n := range []int{1, 2, 3, 15, 16} {
			l := repeated(good, n)
			if c.wide*c.high*n <= 60000 {
				isRead(t, c, writes(t, l, 0), l, 0)
				continue
			}
			fails(t, c, l, 0, api.ErrBound)
			// It is the first one's pixels that are asked for, and ahead of what the others are.
			l = make([]gif.Frame, n)
			l[0] = gif.Frame{P: good.P, Delay: -1}
			fails(t, c, l, 0, api.ErrBound)
		}
	}
	big := colored(256, 256, red)
	big.P = big.P[1:]
	failsAt(t, "not right, so not too great", []gif.Frame{{P: big}}, 0, api.ErrShape)
}

func TestShapes(t *testing.T) {
	good := gif.Frame{P: colored(3, 2, red)}
	of := func(wide, high, many int) api.Picture {
		return api.Picture{Wide: wide, High: high, P: make([]api.Pixel, many)}
	}
	for i, p := range []api.Picture{
		{}, of(3, 2, 0), of(3, 2, 5), of(3, 2, 7), of(0, 2, 0), of(3, 0, 0), of(-3, -2, 6), of(257, 1, 257), of(1, 257, 257),
		of(1<<32, 1<<32, 0), of(math.MinInt, 2, 0), of(math.MaxInt, math.MaxInt, 1), of(3+1<<32, 2, 6),
	} {
		for at := range 16 {
			l := repeated(good, 16)
			l[at].P = p
			failsAt(t, i, l, at, api.ErrShape)
		}
		failsAt(t, i, []gif.Frame{{P: p}}, 0, api.ErrShape)
	}
	// Right, but of another size than the first one.
	for i, p := range []api.Picture{of(2, 3, 6), of(6, 1, 6), of(3, 3, 9), of(2, 2, 4), of(256, 256, 65536)} {
		for at := 1; at < 16; at++ {
			l := repeated(good, 16)
			l[at].P = p
			failsAt(t, i, l, at, api.ErrShape)
		}
	}
	failsAt(t, "the first one is another", []gif.Frame{{P: of(2, 3, 6)}, good, good}, 1, api.ErrShape)
}

func TestDelays(t *testing.T) {
	for at := range 16 {
		l := repeated(gif.Frame{P: colored(3, 2, red)}, 16)
		for _, delay := range []int{0, 1, 100, 255, 256, 65534, 65535} {
			l[at].Delay = delay
			isRead(t, delay, writes(t, l, 0), l, 0)
		}
		for _, delay := range []int{math.MinInt, -65536, -1, 65536, 65537, 1 << 32, math.MaxInt} {
			l[at].Delay = delay
			failsAt(t, delay, l, at, api.ErrBound)
		}
	}
}

// Pixels may be any, and of any many colors, as gif.Write's may not.
func TestAnyColors(t *testing.T) {
	for a := range 256 {
		l := repeated(gif.Frame{P: colored(3, 2, red)}, 3)
		l[1].P.P[4].A = uint8(a)
		isRead(t, a, writes(t, l, 0), l, 0)
	}
	m := mixer(1)
	for _, many := range []int{256, 257, 3000} {
		l := []gif.Frame{{P: m.picture(60, 60, many)}, {P: m.picture(60, 60, many)}}
		if _, err := gif.Write(l, 0); !errors.Is(err, api.ErrColors) {
			t.Errorf("these are none to try: %v", err)
		}
		isRead(t, many, writes(t, l, 0), l, 0)
	}
}

func TestErrorsAreAsTold(t *testing.T) {
	m := mixer(2)
	seen := map[string]int{}
	for range 4000 {
		wide, high := m.between(1, 9), m.between(1, 9)
		if m.below(30) == 0 {
			wide, high = m.between(100, 256), m.between(100, 256)
		}
		l := repeated(gif.Frame{P: colored(wide, high, red)}, m.below(18))
		for i := range l {
			switch m.below(9) {
			case 0:
				l[i].Delay = m.between(-1, 1) * 65536
			case 1:
				l[i].P.P[m.below(wide*high)].A = uint8(m.below(3) - 1)
			case 2:
				l[i].P.Wide += m.between(-1, 1)
			case 3:
				if m.below(3) == 0 {
					l[i].P.P = l[i].P.P[1:]
				}
			}
		}
		loops := m.between(-1, 30) * 2185
		want := slowError(l, loops)
		s, err := Write(l, loops)
		if !alike(err, want) || (s == "") != (want != nil) {
			t.Fatalf("%d frames of %d by %d: %#v, want %#v", len(l), wide, high, err, want)
		}
		if f, ok := want.(*api.Fault); ok {
			seen["at "+f.Err.Error()]++
		} else if want != nil {
			seen[want.Error()]++
		} else {
			seen["none"]++
		}
	}
	if len(seen) != 4 {
		t.Errorf("too few kinds of errors were tried: %v", seen)
	}
}

func TestWrittenByHand(t *testing.T) {
	a, b := api.Pixel{R: 1, G: 2, B: 3, A: 4}, api.Pixel{R: 1, G: 2, B: 3, A: 5}
	head := chunk.Chunk{Kind: "IHDR", Data: "\x00\x00\x00\x02\x00\x00\x00\x01\x08\x06\x00\x00\x00"}
	const size = "\x00\x00\x00\x02\x00\x00\x00\x01\x00\x00\x00\x00\x00\x00\x00\x00"
	first, second := "\x01\x01\x02\x03\x04\x00\x00\x00\x01", "\x01\x01\x02\x03\x05\x00\x00\x00\xff"
	l := []gif.Frame{{P: api.Picture{Wide: 2, High: 1, P: []api.Pixel{a, b}}, Delay: 258}, {P: api.Picture{Wide: 2, High: 1, P: []api.Pixel{b, a}}, Delay: 65535}}
	for _, c := range []struct {
		l     []gif.Frame
		loops int
		want  []chunk.Chunk
	}{
		{l[:1], 7, []chunk.Chunk{
			head, {Kind: "acTL", Data: "\x00\x00\x00\x01\x00\x00\x00\x07"},
			{Kind: "fcTL", Data: "\x00\x00\x00\x00" + size + "\x01\x02\x00\x64\x00\x00"}, {Kind: "IDAT", Data: first}, {Kind: "IEND"},
		}},
		{[]gif.Frame{l[0], l[1], l[0]}, 65534, []chunk.Chunk{
			head, {Kind: "acTL", Data: "\x00\x00\x00\x03\x00\x00\xff\xfe"},
			{Kind: "fcTL", Data: "\x00\x00\x00\x00" + size + "\x01\x02\x00\x64\x00\x00"}, {Kind: "IDAT", Data: first},
			{Kind: "fcTL", Data: "\x00\x00\x00\x01" + size + "\xff\xff\x00\x64\x00\x00"}, {Kind: "fdAT", Data: "\x00\x00\x00\x02" + second},
			{Kind: "fcTL", Data: "\x00\x00\x00\x03" + size + "\x01\x02\x00\x64\x00\x00"}, {Kind: "fdAT", Data: "\x00\x00\x00\x04" + first}, {Kind: "IEND"},
		}},
	} {
		if got := bare(t, writes(t, c.l, c.loops)); !slices.Equal(got, c.want) {
			t.Errorf("%q, want %q", got, c.want)
		}
	}
}

func TestWrittenAsTold(t *testing.T) {
	m := mixer(3)
	for i := range 160 {
		wide, high, many := m.between(1, 40), m.between(1, 40), 1+i%16
		l, loops := m.frames(wide, high, many), m.below(65536)
		if got := bare(t, writes(t, l, loops)); !slices.Equal(got, slowChunks(l, loops, asIs)) {
			t.Fatalf("%d frames of %d by %d: not as told", many, wide, high)
		}
	}
	for _, c := range [][3]int{{256, 1, 16}, {1, 256, 16}, {256, 234, 1}, {125, 30, 16}} {
		l := m.frames(c[0], c[1], c[2])
		if got := bare(t, writes(t, l, 0)); !slices.Equal(got, slowChunks(l, 0, asIs)) {
			t.Errorf("%v: not as told", c)
		}
	}
}

// P181

func sample() []chunk.Chunk {
	m := mixer(4)
	return slowChunks(m.frames(3, 2, 3), 513, zipped)
}

// However it is packed, and by whatever kinds of rows.
func TestOtherWaysToPack(t *testing.T) {
	m := mixer(5)
	for range 80 {
		l, loops := m.frames(m.between(1, 20), m.between(1, 20), m.between(1, 16)), m.below(65536)
		isRead(t, "zipped", slowFile(slowChunks(l, loops, zipped)), l, loops)
		isRead(t, "stored", slowFile(slowChunks(l, loops, stored)), l, loops)
		other := slowChunks(l, loops, func(s string) string {
			b := []byte(s)
			for at := 0; at < len(b); at += 4*l[0].P.Wide + 1 {
				b[at] = byte(m.below(5))
			}
			return stored(string(b))
		})
		if !readsAsSlow(t, "other kinds", other) {
			t.Error("rows of other kinds are not read")
		}
	}
}

func TestErrorsOfChunks(t *testing.T) {
	good := slowFile(sample())
	isNotRead(t, "nothing", "", &api.Fault{At: 0, Err: api.ErrText})
	for _, s := range []string{
		"", "a", good[:7], good[1:], good[:len(good)-1], good + "\x00", good[:20] + "\x09" + good[21:], good[:12] + "ihd1" + good[16:],
		good[:len(good)-2] + "xx", "GIF89a" + good,
		good + strings.Repeat("\x00", api.MaxBytes), strings.Repeat("\x00", api.MaxBytes+1),
	} {
		_, want := chunk.Read(s)
		if want == nil {
			t.Fatal("these are chunks")
		}
		isNotRead(t, len(s), s, want)
	}
	for at := range good {
		for bit := range 8 {
			b := []byte(good)
			b[at] ^= 1 << bit
			if _, want := chunk.Read(string(b)); want != nil {
				isNotRead(t, at, string(b), want)
			}
		}
	}
	// They are told ahead of all that is wrong with what the chunks mean.
	wrong := slowFile([]chunk.Chunk{{Kind: "fcTL", Data: "a"}, {Kind: "IDAT"}})
	isNotRead(t, "none", wrong, api.ErrText)
	isNotRead(t, "a sum, too", wrong[:len(wrong)-1]+"\x00", &api.Fault{At: len(wrong) - 12, Err: api.ErrSum})
	full := slowFile([]chunk.Chunk{{Kind: "IDAT", Data: strings.Repeat("a", api.MaxBytes-20)}})
	isNotRead(t, "as much as may be", full, api.ErrText)
	isNotRead(t, "more", full+"\x00", api.ErrBound)
}

// Every byte of every chunk that is not packed, as every byte; and more or fewer of them.
func TestEveryByteOfData(t *testing.T) {
	good := sample()
	read := 0
	try := func(i int, data string) {
		l := slices.Clone(good)
		l[i].Data = data
		if readsAsSlow(t, [2]any{l[i].Kind, data}, l) {
			read++
		}
	}
	for i, c := range good {
		for n := range len(c.Data) + 1 {
			try(i, c.Data[:n])
			try(i, c.Data[n:])
			try(i, c.Data[:n]+"\x00"+c.Data[n:])
			try(i, c.Data[:n]+"\x01"+c.Data[n:])
			if n == len(c.Data) || c.Kind == "IDAT" || c.Kind == "fdAT" && n >= 4 {
				continue
			}
			for b := range 256 {
				try(i, c.Data[:n]+string([]byte{byte(b)})+c.Data[n+1:])
			}
		}
	}
	// A delay is any: 3 times 2 bytes; so are loops: 2 bytes. All else is just as it is, at one of 256 values.
	fixed := 13 + 8 + 3*26 + 2*4 - 8
	if least := 8*256 + fixed; read < least || read > least+20 {
		t.Errorf("%d read, want about %d", read, least)
	}
}

func TestOtherChunks(t *testing.T) {
	good := sample()
	others := append(slices.Clone(good), chunk.Chunk{Kind: "teXt"}, chunk.Chunk{Kind: "IEND", Data: "a"}, chunk.Chunk{Kind: "IDAT"}, chunk.Chunk{Kind: "PLTE", Data: "abc"}, chunk.Chunk{Kind: "tRNS"})
	for i := range len(good) + 1 {
		for _, c := range others {
			chunksNotRead(t, "one more", slices.Insert(slices.Clone(good), i, c), api.ErrText)
			chunksNotRead(t, "two more", slices.Insert(slices.Clone(good), i, c, c), api.ErrText)
		}
		chunksNotRead(t, "cut", good[:i:i][:min(i, len(good)-1)], api.ErrText)
		if i == len(good) {
			continue
		}
		chunksNotRead(t, "one fewer", slices.Delete(slices.Clone(good), i, i+1), api.ErrText)
		if i+2 <= len(good) {
			chunksNotRead(t, "two fewer", slices.Delete(slices.Clone(good), i, i+2), api.ErrText)
		}
		for k, c := range others {
			l := slices.Clone(good)
			l[i] = c
			if i < len(good) && k < len(good) {
				l[k] = good[i]
			}
			if i != k {
				readsAsSlow(t, "changed", l)
			}
			l = slices.Clone(good)
			l[i].Kind = c.Kind
			readsAsSlow(t, "of another kind", l)
		}
		for _, kind := range []string{"iHDR", "IhDR", "acTl", "AcTL", "fctl", "fdat", "fDAT", "iDAT", "IEnD", "aaaa"} {
			l := slices.Clone(good)
			l[i].Kind = kind
			chunksNotRead(t, kind, l, api.ErrText)
		}
	}
	chunksNotRead(t, "none", nil, api.ErrText)
}

// numbered frames: all blank, each as it is told, though there are none so many.
func numbered(wide, high, many, told, loops int) []chunk.Chunk {
	size := four(wide, high)
	l := []chunk.Chunk{{Kind: "IHDR", Data: size + "\x08\x06\x00\x00\x00"}, {Kind: "acTL", Data: four(told, loops)}}
	rows := ""
	if wide >= 1 && wide <= 1000 && high >= 1 && high <= 1000 {
		rows = zipped(strings.Repeat("\x00", (4*wide+1)*high))
	}
	for i := range many {
		l = append(l, chunk.Chunk{Kind: "fcTL", Data: four(max(0, 2*i-1)) + size + "\x00\x00\x00\x00\x00\x00\x00\x00\x00\x00\x00\x64\x00\x00"})
		if i == 0 {
			l = append(l, chunk.Chunk{Kind: "IDAT", Data: rows})
		} else {
			l = append(l, chunk.Chunk{Kind: "fdAT", Data: four(2*i) + rows})
		}
	}
	return append(l, chunk.Chunk{Kind: "IEND"})
}

func TestNumbersThatMayBe(t *testing.T) {
	for many := range 20 {
		for told := range 20 {
			ok := many >= 1 && many <= 16 && told == many
			if readsAsSlow(t, many, numbered(2, 2, many, told, 3)) != ok {
				t.Errorf("%d frames, %d told: %t", many, told, !ok)
			}
		}
	}
	for _, n := range []int{1, 2, 255, 256} {
		for _, k := range []int{0, 257, 258, 300, 65536, 65537, 1 << 24, 1<<31 + 1, 1<<32 - 1} {
			chunksNotRead(t, k, numbered(n, k, 1, 1, 0), api.ErrText)
			chunksNotRead(t, k, numbered(k, n, 1, 1, 0), api.ErrText)
			chunksNotRead(t, k, numbered(k, k, 1, 1, 0), api.ErrText)
		}
	}
	for _, loops := range []int{0, 1, 255, 256, 65535, 65536, 65537, 1 << 24, 1 << 31, 1<<32 - 1} {
		for _, many := range []int{1, 2, 16} {
			if readsAsSlow(t, loops, numbered(3, 3, many, many, loops)) != (loops <= 65535) {
				t.Errorf("%d loops", loops)
			}
		}
	}
	for _, c := range [][3]int{{256, 234, 1}, {256, 235, 1}, {256, 256, 1}, {240, 250, 1}, {241, 249, 1}, {200, 150, 2}, {200, 151, 2}, {125, 30, 16}, {121, 31, 16}, {256, 256, 16}} {
		if readsAsSlow(t, c, numbered(c[0], c[1], c[2], c[2], 0)) != (c[0]*c[1]*c[2] <= 60000) {
			t.Errorf("%v", c)
		}
	}
	chunksNotRead(t, "as many as a file has room for", numbered(1, 1, 3000, 3000, 0), api.ErrText)
	chunksNotRead(t, "and great ones", numbered(256, 256, 500, 500, 0), api.ErrText)
}

// wrong rows, packed, with the error of each.
type wrong struct {
	packed string
	err    error
}

func packedWrong(rows string) []wrong {
	good := zipped(rows)
	last := len(good) - 1
	kind := func(k byte) string { return stored(string([]byte{k}) + rows[1:]) }
	return []wrong{
		{"", api.ErrText}, {good[:1], api.ErrText}, {"\x79" + good[1:], api.ErrText},
		{good[:last/2], api.ErrText}, {good[:last], api.ErrText}, {good + "\x00", api.ErrText},
		{good[:last] + string([]byte{good[last] ^ 1}), api.ErrSum},
		{zipped(rows + "\x00"), api.ErrBound}, {stored(rows + "\x00"), api.ErrBound}, {stored(rows + rows), api.ErrBound},
		{zipped(rows[:len(rows)-1]), api.ErrText}, {stored(rows[:1]), api.ErrText}, {zipped(""), api.ErrText},
		{stored(rows + "\x00")[:len(rows)], api.ErrText},
		{kind(5), api.ErrText}, {kind(255), api.ErrText},
	}
}

func TestPackedWrong(t *testing.T) {
	m := mixer(6)
	frames := m.frames(5, 4, 4)
	good := slowChunks(frames, 9, zipped)
	rows := slowRows(frames[0].P)
	with := func(l []chunk.Chunk, i int, packed string) []chunk.Chunk {
		l = slices.Clone(l)
		if i == 0 {
			l[3].Data = packed
		} else {
			l[3+2*i].Data = four(2*i) + packed
		}
		return l
	}
	all := packedWrong(rows)
	for a, w := range all {
		for i := range frames {
			l := with(good, i, w.packed)
			chunksNotRead(t, [2]int{a, i}, l, w.err)
			readsAsSlow(t, [2]int{a, i}, l)
			// The first frame that is wrong is told.
			for b, other := range all {
				for k := i + 1; k < len(frames); k++ {
					chunksNotRead(t, [2]int{a, b}, with(l, k, other.packed), w.err)
				}
			}
			// All that is not packed is asked ahead of it.
			for at := range good {
				if kind := l[at].Kind; kind != "IDAT" && kind != "fdAT" {
					first := slices.Clone(l)
					first[at].Data += "\x00"
					chunksNotRead(t, "chunks first", first, api.ErrText)
				}
			}
		}
	}
	// Of a later row, and with a kind that is none in two frames.
	row := 4*5 + 1
	for y := range 4 {
		for k := range 256 {
			b := []byte(rows)
			b[y*row] = byte(k)
			if readsAsSlow(t, k, with(good, 2, stored(string(b)))) != (k <= 4) {
				t.Errorf("row %d of kind %d", y, k)
			}
		}
	}
	// Fewer are told ahead of a kind that is none, which no error tells apart; but a sum is told ahead of both.
	short := []byte(stored("\x09" + rows[1:len(rows)-1]))
	short[len(short)-1] ^= 1
	chunksNotRead(t, "sum first", with(good, 1, string(short)), api.ErrSum)
}

func TestSpoiltRows(t *testing.T) {
	good := sample()
	for i, c := range good {
		if c.Kind != "IDAT" && c.Kind != "fdAT" {
			continue
		}
		for at := range c.Data {
			for bit := range 8 {
				b := []byte(c.Data)
				b[at] ^= 1 << bit
				l := slices.Clone(good)
				l[i].Data = string(b)
				readsAsSlow(t, [3]int{i, at, bit}, l)
			}
		}
	}
}

// A file of one picture is no film.
func TestPicturesAreNone(t *testing.T) {
	m := mixer(7)
	for _, many := range []int{1, 2, 300} {
		s, err := png.Write(m.picture(20, 20, many))
		if err != nil {
			t.Fatal(err)
		}
		isNotRead(t, many, s, api.ErrText)
	}
	s, err := gif.Write([]gif.Frame{{P: colored(2, 2, red)}}, 0)
	if err != nil {
		t.Fatal(err)
	}
	isNotRead(t, "a moving picture", s, &api.Fault{At: 0, Err: api.ErrText})
}

// P182

func TestWrittenIsRead(t *testing.T) {
	m := mixer(8)
	for i := range 160 {
		l, loops := m.frames(m.between(1, 40), m.between(1, 40), 1+i%16), m.below(65536)
		s := writes(t, l, loops)
		isRead(t, i, s, l, loops)
		if p, err := png.Read(s); err != nil || !same(p, l[0].P) {
			t.Errorf("png.Read: %d by %d, %v", p.Wide, p.High, err)
		}
	}
}

func TestLibraryReadsTheFirst(t *testing.T) {
	m := mixer(9)
	for range 60 {
		l := m.frames(m.between(1, 50), m.between(1, 50), m.between(1, 16))
		g, err := stdpng.Decode(bytes.NewReader([]byte(writes(t, l, 0))))
		if err != nil {
			t.Fatal(err)
		}
		for i, c := range l[0].P.P {
			if got := color.NRGBAModel.Convert(g.At(i%l[0].P.Wide, i/l[0].P.Wide)); c.A > 0 && got != (color.NRGBA{c.R, c.G, c.B, c.A}) {
				t.Fatalf("pixel %d: %v, want %v", i, got, c)
			}
		}
	}
}

// As great as they may be, and of pixels that can't be packed.
func TestGreatestOnes(t *testing.T) {
	m := mixer(10)
	for _, c := range [][3]int{{256, 234, 1}, {234, 256, 1}, {240, 250, 1}, {250, 120, 2}, {125, 30, 16}, {256, 14, 16}, {14, 256, 16}, {1, 256, 16}} {
		var l []gif.Frame
		for range c[2] {
			l = append(l, gif.Frame{P: m.picture(c[0], c[1], 60000), Delay: 65535})
		}
		from := time.Now()
		s := writes(t, l, 65535)
		if len(s) > api.MaxBytes {
			t.Errorf("%v: %d bytes", c, len(s))
		}
		isRead(t, c, s, l, 65535)
		if took := time.Since(from); took > 10*time.Second {
			t.Errorf("%v: %v", c, took)
		}
	}
}

// P1: whatever is handed in, it is read, or there is an error.
func TestReadOfNone(t *testing.T) {
	m := mixer(11)
	chunks := sample()
	good := slowFile(chunks)
	for range 3000 {
		b := make([]byte, m.below(60))
		for i := range b {
			b[i] = byte(m.below(256))
		}
		at := m.below(len(good))
		for _, s := range []string{string(b), good[:8] + string(b), good[:at] + string(b), good[:at] + string(b) + good[min(len(good), at+len(b)):]} {
			c, want := chunk.Read(s)
			if want != nil {
				isNotRead(t, len(s), s, want)
			} else {
				readsAsSlow(t, len(s), c)
			}
		}
		// Chunks that are some, in any order.
		l := slices.Clone(chunks)
		for range m.between(1, 3) {
			i, k := m.below(len(l)), m.below(len(l))
			l[i], l[k] = l[k], l[i]
		}
		readsAsSlow(t, "mixed", l)
	}
}

// P2, P3, P4

// What is handed over is only read, without the room behind it, and what is answered is new memory.
func TestNewMemory(t *testing.T) {
	m := mixer(12)
	frames := make([]gif.Frame, 4)
	var rooms, were [][]api.Pixel
	for i := range frames {
		room := m.picture(10, 10, 90).P
		rooms, were = append(rooms, room), append(were, slices.Clone(room))
		frames[i] = gif.Frame{P: api.Picture{Wide: 9, High: 9, P: room[:81]}, Delay: i}
	}
	l := frames[:3]
	s := writes(t, l, 9)
	frames[3] = gif.Frame{Delay: -1}
	if writes(t, l, 9) != s || frames[3].Delay != -1 {
		t.Error("what lies behind the list is read, or written")
	}
	var want []gif.Frame
	for i := range rooms {
		if !slices.Equal(rooms[i], were[i]) {
			t.Error("what was handed over is changed")
		}
		for k := 81; k < len(rooms[i]); k++ {
			rooms[i][k] = api.Pixel{A: 77}
		}
	}
	if writes(t, l, 9) != s {
		t.Error("what lies behind the pixels is read")
	}
	for _, f := range l {
		want = append(want, gif.Frame{P: api.Picture{Wide: 9, High: 9, P: slices.Clone(f.P.P)}, Delay: f.Delay})
	}
	got, _, err := Read(s)
	if err != nil || !sameFrames(got, want) {
		t.Fatal(err)
	}
	for i := range got {
		all := got[i].P.P[:cap(got[i].P.P)]
		for k := range all {
			all[k] = api.Pixel{A: 99}
		}
		for k := i + 1; k < len(got); k++ {
			if !same(got[k].P, want[k].P) {
				t.Error("two frames share memory")
			}
		}
	}
	isRead(t, "again", s, want, 9)
}

// Nothing is kept from call to call.
func TestEachCallByItself(t *testing.T) {
	m := mixer(13)
	var l [][]gif.Frame
	var texts []string
	for range 20 {
		f := m.frames(m.between(1, 20), m.between(1, 20), m.between(1, 5))
		l, texts = append(l, f), append(texts, writes(t, f, 3))
	}
	for i := range l {
		k := len(l) - 1 - i
		isNotRead(t, k, texts[k][1:], &api.Fault{At: 0, Err: api.ErrText})
		fails(t, k, nil, 0, api.ErrBound)
		if writes(t, l[k], 3) != texts[k] {
			t.Error("written otherwise again")
		}
		isRead(t, k, texts[k], l[k], 3)
	}
}
