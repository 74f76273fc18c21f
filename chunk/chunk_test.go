package chunk

import (
	"bytes"
	"errors"
	"image"
	"image/color"
	"image/png"
	"slices"
	"strings"
	"testing"

	"layercake/api"
)

func writes(t *testing.T, l []Chunk, want string) {
	t.Helper()
	if got, err := Write(l); got != want || err != nil {
		t.Errorf("Write(%s): %s, %v, want %s", shortChunks(l), short(got), err, short(want))
	}
}

func reads(t *testing.T, s string, want []Chunk) {
	t.Helper()
	if got, err := Read(s); !slices.Equal(got, want) || err != nil {
		t.Errorf("Read(%s): %s, %v, want %s", short(s), shortChunks(got), err, shortChunks(want))
	}
}

// isFault: just such a one, with just that error.
func isFault(err error, at int, want error) bool {
	f, ok := err.(*api.Fault)
	return ok && f.At == at && f.Err == want && errors.Is(err, want)
}

func writeFails(t *testing.T, l []Chunk, at int, want error) {
	t.Helper()
	if got, err := Write(l); got != "" || !isFault(err, at, want) {
		t.Errorf("Write(%s): %s, %#v, want %v at %d", shortChunks(l), short(got), err, want, at)
	}
}

func readFails(t *testing.T, s string, at int, want error) {
	t.Helper()
	if got, err := Read(s); len(got) != 0 || !isFault(err, at, want) {
		t.Errorf("Read(%s): %s, %#v, want %v at %d", short(s), shortChunks(got), err, want, at)
	}
}

// readsAsSlow: Read answers as the slow reader does; it tells whether both read it.
func readsAsSlow(t *testing.T, s string) bool {
	t.Helper()
	want, at, err := slowRead(s)
	switch {
	case err == nil:
		reads(t, s, want)
	case at < 0:
		readTooLong(t, s)
	default:
		readFails(t, s, at, err)
	}
	return err == nil
}

func readTooLong(t *testing.T, s string) {
	t.Helper()
	if got, err := Read(s); len(got) != 0 || err != api.ErrBound {
		t.Errorf("Read(%s): %s, %#v, want the bare %v", short(s), shortChunks(got), err, api.ErrBound)
	}
}

// P90

func TestFilesByHand(t *testing.T) {
	for _, c := range []struct {
		l []Chunk
		s string
	}{
		{nil, "\x89PNG\r\n\x1a\n"},
		{[]Chunk{{"IEND", ""}}, "\x89PNG\r\n\x1a\n\x00\x00\x00\x00IEND\xae\x42\x60\x82"},
		{
			[]Chunk{{"IHDR", "\x00\x00\x00\x01\x00\x00\x00\x01\x08\x06\x00\x00\x00"}, {"IEND", ""}},
			"\x89PNG\r\n\x1a\n\x00\x00\x00\x0dIHDR\x00\x00\x00\x01\x00\x00\x00\x01\x08\x06\x00\x00\x00\x1f\x15\xc4\x89\x00\x00\x00\x00IEND\xae\x42\x60\x82",
		},
		{[]Chunk{{"gAMA", "\x00\x00\xb1\x8f"}}, "\x89PNG\r\n\x1a\n\x00\x00\x00\x04gAMA\x00\x00\xb1\x8f\x0b\xfc\x61\x05"},
	} {
		writes(t, c.l, c.s)
		reads(t, c.s, c.l)
		if got := slowWrite(c.l); got != c.s {
			t.Errorf("the slow one: %q", got)
		}
	}
	writes(t, []Chunk{}, "\x89PNG\r\n\x1a\n")
}

// Lengths with bits in each of the bytes that tell them, as far as the bound lets them grow.
func TestLengths(t *testing.T) {
	m := mixer(1)
	for _, n := range []int{0, 1, 2, 127, 128, 255, 256, 257, 65535, 65536, 65537, 131072, 0x030201, 262144, 299980} {
		l := []Chunk{{"IDAT", m.bytes(n)}}
		s := slowWrite(l)
		writes(t, l, s)
		reads(t, s, l)
	}
}

// Data may be any bytes, also such as look like a file.
func TestAnyData(t *testing.T) {
	inner := slowWrite([]Chunk{{"IHDR", "abc"}, {"IEND", ""}})
	for _, data := range []string{"\x00", "\xff\xff\xff\xff", "IEND", "\xc3\x28é\xff", eight, inner, inner + inner[8:]} {
		l := []Chunk{{"IDAT", data}, {"IDAT", data + data}, {"IEND", ""}}
		writes(t, l, slowWrite(l))
		reads(t, slowWrite(l), l)
	}
}

// The library reads what is written, and what the library writes is read.
func TestLibrary(t *testing.T) {
	p := image.NewNRGBA(image.Rect(0, 0, 19, 7))
	for i := range p.Pix {
		p.Pix[i] = byte(i * i)
	}
	few := image.NewPaletted(image.Rect(0, 0, 9, 9), color.Palette{color.NRGBA{1, 2, 3, 255}, color.NRGBA{9, 8, 7, 66}})
	for i := range few.Pix {
		few.Pix[i] = byte(i % 2)
	}
	for _, want := range []image.Image{p, few} {
		var b bytes.Buffer
		if err := png.Encode(&b, want); err != nil {
			t.Fatal(err)
		}
		l, err := Read(b.String())
		if len(l) < 3 || l[0].Kind != "IHDR" || l[len(l)-1] != (Chunk{"IEND", ""}) || err != nil {
			t.Fatal(shortChunks(l), err)
		}
		writes(t, l, b.String())
		// With more chunks between, that it passes over.
		s, err := Write(slices.Insert(l, 1, Chunk{"teXt", "ab"}, Chunk{"zzZz", ""}))
		if err != nil {
			t.Fatal(err)
		}
		got, err := png.Decode(strings.NewReader(s))
		if err != nil {
			t.Fatal(err)
		}
		samePicture(t, got, want)
	}
}

func samePicture(t *testing.T, a, b image.Image) {
	t.Helper()
	if a.Bounds() != b.Bounds() {
		t.Fatal(a.Bounds(), b.Bounds())
	}
	for y := range a.Bounds().Dy() {
		for x := range a.Bounds().Dx() {
			if a.At(x, y) != b.At(x, y) {
				t.Fatalf("%d %d: %v, want %v", x, y, a.At(x, y), b.At(x, y))
			}
		}
	}
}

// Every byte at every place of a Kind: letters alone make one.
func TestEveryByteOfKind(t *testing.T) {
	const letters = "abcdefghijklmnopqrstuvwxyzABCDEFGHIJKLMNOPQRSTUVWXYZ"
	for place := range 4 {
		for b := range 256 {
			kind := []byte("aZAz")
			kind[place] = byte(b)
			l := []Chunk{{"IHDR", "x"}, {string(kind), "data"}, {"IEND", ""}}
			if strings.IndexByte(letters, byte(b)) >= 0 {
				writes(t, l, slowWrite(l))
				reads(t, slowWrite(l), l)
				continue
			}
			writeFails(t, l, 1, api.ErrShape)
			readFails(t, slowWrite(l), 8+13, api.ErrText)
		}
	}
}

// P91

func TestKindsOfOtherLengths(t *testing.T) {
	for _, kind := range []string{"", "I", "IE", "IEN", "IENDS", "IENDIEND", "éé", "aéb", "ａb", strings.Repeat("a", 1000), strings.Repeat("a", api.MaxBytes+4)} {
		writeFails(t, []Chunk{{kind, ""}}, 0, api.ErrShape)
		writeFails(t, []Chunk{{"IHDR", ""}, {"IDAT", "a"}, {kind, "data"}, {"IEND", ""}}, 2, api.ErrShape)
	}
}

func TestFirstFaultOfWriting(t *testing.T) {
	long := strings.Repeat("\x00", api.MaxBytes)
	none, over, good := Chunk{"IDA1", ""}, Chunk{"IDAT", long}, Chunk{"IDAT", "ab"}
	for _, c := range []struct {
		l    []Chunk
		at   int
		want error
	}{
		{[]Chunk{none, none}, 0, api.ErrShape},
		{[]Chunk{good, none, none}, 1, api.ErrShape},
		{[]Chunk{good, good, over, over}, 2, api.ErrBound},
		// Of two chunks the first one is told, whichever error it has.
		{[]Chunk{good, none, over}, 1, api.ErrShape},
		{[]Chunk{good, over, none}, 1, api.ErrBound},
		// Of one chunk with both errors, that it is none.
		{[]Chunk{good, {"IDA1", long}, good}, 1, api.ErrShape},
		{[]Chunk{{"", long}}, 0, api.ErrShape},
	} {
		writeFails(t, c.l, c.at, c.want)
	}
}

// All bytes count: the eight, and twelve of each chunk beside its data.
func TestBoundOfWriting(t *testing.T) {
	data := strings.Repeat("d", api.MaxBytes)
	for _, ahead := range []int{0, 1, 2, 77} {
		l := slices.Repeat([]Chunk{{"abcd", "efg"}}, ahead)
		left := api.MaxBytes - 8 - 15*ahead - 12
		fits := append(slices.Clone(l), Chunk{"IDAT", data[:left]})
		s := slowWrite(fits)
		if len(s) != api.MaxBytes {
			t.Fatal(len(s))
		}
		writes(t, fits, s)
		reads(t, s, fits)
		writeFails(t, append(slices.Clone(l), Chunk{"IDAT", data[:left+1]}), ahead, api.ErrBound)
		writeFails(t, append(slices.Clone(fits), Chunk{"IEND", ""}), ahead+1, api.ErrBound)
		writeFails(t, append(slices.Clone(l), Chunk{"IDAT", data[:left-11]}, Chunk{"IEND", ""}), ahead+1, api.ErrBound)
		writes(t, append(slices.Clone(l), Chunk{"IDAT", data[:left-12]}, Chunk{"IEND", ""}), slowWrite(append(slices.Clone(l), Chunk{"IDAT", data[:left-12]}, Chunk{"IEND", ""})))
	}
}

// As many chunks as there can be.
func TestManyChunks(t *testing.T) {
	const most = (api.MaxBytes - 8) / 12
	l := slices.Repeat([]Chunk{{"IEND", ""}}, most)
	s := eight + strings.Repeat(slowChunk("IEND", ""), most)
	writes(t, l, s)
	reads(t, s, l)
	writeFails(t, append(l, Chunk{"IEND", ""}), most, api.ErrBound)
	readFails(t, s+"\x00", len(s), api.ErrText)
	readFails(t, s[:len(s)-1]+"\x83", len(s)-12, api.ErrSum)
}

func TestBoundOfReading(t *testing.T) {
	good := slowWrite([]Chunk{{"IDAT", strings.Repeat("d", api.MaxBytes-20)}})
	reads(t, good, []Chunk{{"IDAT", strings.Repeat("d", api.MaxBytes-20)}})
	// Ahead of all that is wrong within.
	for _, s := range []string{
		slowWrite([]Chunk{{"IDAT", strings.Repeat("d", api.MaxBytes-19)}}),
		good + "\x00",
		strings.Repeat("\x00", api.MaxBytes+1),
		eight + strings.Repeat("\x00", api.MaxBytes),
		strings.Repeat("\x89", 4*api.MaxBytes),
	} {
		readTooLong(t, s)
	}
	readFails(t, strings.Repeat("\x00", api.MaxBytes), 0, api.ErrText)
	readFails(t, eight+strings.Repeat("\x00", api.MaxBytes-8), 8, api.ErrText)
}

func TestEightBytes(t *testing.T) {
	rest := slowChunk("IEND", "")
	for n := range 8 {
		readFails(t, eight[:n], 0, api.ErrText)
		// A byte lacks, or is another one.
		readFails(t, eight[:n]+eight[n+1:]+rest, 0, api.ErrText)
		for bit := range 8 {
			l := []byte(eight + rest)
			l[n] ^= 1 << bit
			readFails(t, string(l), 0, api.ErrText)
			readFails(t, string(l[:8]), 0, api.ErrText)
		}
	}
	readFails(t, rest, 0, api.ErrText)
	readFails(t, "\x00"+eight+rest, 0, api.ErrText)
	// Ahead of what is wrong behind them.
	readFails(t, eight[:7]+"x"+"\x00\x00", 0, api.ErrText)
	// A second time they begin a chunk that is none.
	readFails(t, eight+eight+rest, 8, api.ErrText)
}

// A file cut anywhere: whole where a chunk ends, else the chunk that is cut is none.
func TestCutFiles(t *testing.T) {
	m := mixer(2)
	for range 20 {
		l := m.chunks(1+m.below(6), 20)
		s := slowWrite(l)
		whole, begin := 0, 8
		for n := 8; n < len(s); n++ {
			if n == begin+12+len(l[whole].Data) {
				whole, begin = whole+1, n
			}
			if n == begin {
				reads(t, s[:n], l[:whole])
			} else {
				readFails(t, s[:n], begin, api.ErrText)
			}
		}
	}
}

func TestLengthsBeyond(t *testing.T) {
	ahead := slowWrite([]Chunk{{"IHDR", "abc"}})
	rest := slowChunk("IDAT", "data")[4:]
	for _, n := range []string{
		"\x00\x00\x00\x05", "\x00\x00\x00\x06", "\x00\x00\x00\x10", "\x00\x00\x01\x04", "\x00\x01\x00\x04", "\x01\x00\x00\x04",
		"\x7f\xff\xff\xff", "\x7f\xff\xff\xf4", "\x80\x00\x00\x00", "\x80\x00\x00\x04", "\xff\xff\xff\xff",
		"\xff\xff\xff\xf4", "\xff\xff\xff\xf8", "\xff\xff\xff\xf0", "\xff\xff\xff\xfc",
	} {
		readFails(t, ahead+n+rest, len(ahead), api.ErrText)
		readFails(t, ahead+n+rest[:8], len(ahead), api.ErrText)
	}
	reads(t, ahead+"\x00\x00\x00\x04"+rest, []Chunk{{"IHDR", "abc"}, {"IDAT", "data"}})
	// Shorter: the sum is taken from the data.
	for n := range 4 {
		readFails(t, ahead+"\x00\x00\x00"+string([]byte{byte(n)})+rest, len(ahead), api.ErrSum)
	}
}

// Each chunk by itself: what is wrong of the first one that is none, and of that ErrText ahead of ErrSum.
func TestFirstFaultOfReading(t *testing.T) {
	good, wrongKind, wrongSum := slowChunk("IDAT", "ab"), slowChunk("ID T", "ab"), slowChunk("IDAT", "ab")[:13]+"x"
	both := wrongKind[:13] + "x"
	for _, c := range []struct {
		s    string
		at   int
		want error
	}{
		{wrongSum + wrongKind, 8, api.ErrSum},
		{wrongKind + wrongSum, 8, api.ErrText},
		{good + wrongSum + wrongKind + good, 22, api.ErrSum},
		{good + good + wrongKind + wrongSum, 36, api.ErrText},
		{good + wrongSum + "\x00", 22, api.ErrSum},
		{good + both + good, 22, api.ErrText},
		{good + both[:13], 22, api.ErrText},
		{good + wrongKind[:13], 22, api.ErrText},
		{good + wrongSum[:13], 22, api.ErrText},
		{good + good + "\x00\x00\x00\x00", 36, api.ErrText},
		{good + good + "IEND", 36, api.ErrText},
	} {
		readFails(t, eight+c.s, c.at, c.want)
	}
}

// The sum is that of Kind and Data, with the highest byte first: no other one.
func TestOtherSums(t *testing.T) {
	good := slowChunk("IDAT", "data")
	crc := good[12:]
	for _, other := range []string{
		"\x00\x00\x00\x00",
		"\xff\xff\xff\xff",
		string([]byte{crc[3], crc[2], crc[1], crc[0]}),
		string([]byte{^crc[0], ^crc[1], ^crc[2], ^crc[3]}),
		slowChunk("data", "")[8:],
		slowChunk("IDAT", "")[8:],
		slowChunk("data", "IDAT")[12:],
	} {
		readFails(t, eight+good[:12]+other, 8, api.ErrSum)
	}
}

// Files spoilt at some places, read as by the slow reader.
func TestSpoiltFiles(t *testing.T) {
	m := mixer(3)
	read := 0
	for range 20000 {
		s := []byte(slowWrite(m.chunks(m.below(5), 12)))
		for range m.below(3) {
			at := m.below(len(s))
			switch m.below(4) {
			case 0:
				s[at] = byte(m.below(256))
			case 1:
				s = slices.Delete(s, at, min(len(s), at+1+m.below(3)))
			case 2:
				s = slices.Insert(s, at, byte(m.below(256)))
			case 3:
				s = append(s, slowChunk(m.kind(), m.bytes(m.below(4)))...)
			}
			if len(s) == 0 {
				break
			}
		}
		if readsAsSlow(t, string(s)) {
			read++
		}
	}
	if read < 4000 || read > 16000 {
		t.Errorf("%d were read: too few or too many to tell", read)
	}
}

// P92

func TestWrittenIsRead(t *testing.T) {
	m := mixer(4)
	for range 500 {
		l := m.chunks(m.below(12), 1<<m.below(10))
		s, err := Write(l)
		if err != nil {
			t.Fatal(err)
		}
		if s != slowWrite(l) {
			t.Errorf("%s: %s", shortChunks(l), short(s))
		}
		reads(t, s, l)
		back, err := Read(s)
		if err != nil {
			t.Fatal(err)
		}
		writes(t, back, s)
	}
}

// Each bit of a Kind, of Data and of a sum.
func TestOneBitTurned(t *testing.T) {
	m := mixer(5)
	for _, longest := range []int{0, 1, 5, 60, 700} {
		l := m.chunks(4, longest)
		s := []byte(slowWrite(l))
		begin := 8
		for _, c := range l {
			end := begin + 12 + len(c.Data)
			for at := begin + 4; at < end; at++ {
				for bit := range 8 {
					s[at] ^= 1 << bit
					if readsAsSlow(t, string(s)) {
						t.Errorf("bit %d of byte %d turned: no error", bit, at)
					}
					s[at] ^= 1 << bit
				}
			}
			begin = end
		}
		reads(t, string(s), l)
	}
}

// P2, P4
func TestCallsAreApart(t *testing.T) {
	m := mixer(6)
	l := m.chunks(5, 30)
	kept := slices.Clone(l)
	s, err := Write(l[:4])
	if err != nil || !slices.Equal(l, kept) {
		t.Fatal("what was handed over is changed", err)
	}
	first, err := Read(s)
	if err != nil {
		t.Fatal(err)
	}
	for range 3 {
		writeFails(t, []Chunk{{"IHDR", "ab"}, {"", ""}}, 1, api.ErrShape)
		readFails(t, s+"x", len(s), api.ErrText)
		writes(t, l[:4], s)
		reads(t, s, kept[:4])
		// Neither a change of what was handed over nor of what was answered shows.
		clear(first)
		clear(l[:2])
		reads(t, s, kept[:4])
		copy(l, kept)
	}
}

func FuzzRead(f *testing.F) {
	m := mixer(7)
	for n := range 4 {
		f.Add(slowWrite(m.chunks(n, 9)))
	}
	f.Fuzz(func(t *testing.T, s string) {
		if readsAsSlow(t, s) {
			l, _ := Read(s)
			writes(t, l, s)
		}
	})
}
