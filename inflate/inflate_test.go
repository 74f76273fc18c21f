package inflate

import (
	"bytes"
	"compress/flate"
	"compress/zlib"
	"fmt"
	"io"
	"math"
	"slices"
	"strings"
	"testing"

	"layercake/api"
)

// means: s, alone and with more behind it, is a packed text of all of its bytes that means want.
func means(t *testing.T, name, s, want string) {
	t.Helper()
	for _, rest := range []string{"", "\x00", "\xff\xff\xff\xff"} {
		got, used, err := Inflate(s+rest, api.MaxBytes)
		if got != want || used != len(s) || err != nil {
			t.Errorf("%s, %q behind: %s, %d of %d, %v, want %s", name, rest, short(got), used, len(s), err, short(want))
		}
	}
}

func fails(t *testing.T, name, s string, most int, want error) {
	t.Helper()
	throwsRight(t, s, most)
	if got, used, err := Inflate(s, most); got != "" || used != 0 || err != want {
		t.Errorf("%s, most %d: %s, %d, %v, want %v", name, most, short(got), used, err, want)
	}
}

// throwsRight: nothing is thrown but what Inflate means to catch; anything else would be told as ErrText, and so not be seen.
func throwsRight(t *testing.T, s string, most int) {
	t.Helper()
	defer func() {
		t.Helper()
		caught := recover()
		if _, ok := caught.(unreadable); !ok && caught != nil {
			t.Errorf("%s, most %d: %v is thrown", short(s), most, caught)
		}
	}()
	if bounded(s, most) {
		newReader(s, most).blocks()
	}
}

func short(s string) string {
	if len(s) > 60 {
		return fmt.Sprintf("%q.. (%d)", s[:60], len(s))
	}
	return fmt.Sprintf("%q", s)
}

func everyByte() string {
	l := make([]byte, 256)
	for i := range l {
		l[i] = byte(i)
	}
	return string(l)
}

// P40

func TestExamples(t *testing.T) {
	means(t, "the byte a", "\x4b\x04\x00", "a")
	means(t, "nothing, fixed", "\x03\x00", "")
	means(t, "nothing, stored", "\x01\x00\x00\xff\xff", "")
	means(t, "abc, stored", "\x01\x03\x00\xfc\xffabc", "abc")
}

func TestStoredBlocks(t *testing.T) {
	m := mixer(1)
	long := m.bytes(65535, 256)
	means(t, "all bytes", pack(func(p *packer) { p.stored(1, everyByte()) }), everyByte())
	means(t, "the longest", pack(func(p *packer) { p.stored(1, long) }), long)
	means(t, "several", pack(func(p *packer) {
		p.stored(0, "one")
		p.stored(0, "")
		p.stored(0, long)
		p.stored(1, "two")
	}), "one"+long+"two")
	// From 3 bits on up to a whole byte: those may be any.
	means(t, "bits passed over", "\xf9\x01\x00\xfe\xffa", "a")
	for ahead := range 9 {
		want := strings.Repeat("\xff", ahead) + "xyz"
		means(t, "behind a fixed block", pack(func(p *packer) {
			p.fixed(0)
			p.word(want[:ahead])
			p.end()
			p.stored(1, "xyz")
		}), want)
	}
}

func TestFixedBlocks(t *testing.T) {
	means(t, "all bytes", pack(func(p *packer) {
		p.fixed(1)
		p.word(everyByte())
		p.end()
	}), everyByte())
	means(t, "several", pack(func(p *packer) {
		p.fixed(0)
		p.word("ab")
		p.end()
		p.fixed(0)
		p.end()
		p.fixed(1)
		p.match(258, 0, 1, 0)
		p.end()
	}), "ababab")
}

func TestDynamicBlocks(t *testing.T) {
	words := map[int]int{'a': 1, 'b': 2, 256: 3, 257: 3}
	for _, symbols := range []int{258, 270, 286} {
		for _, distances := range []int{2, 17, 30} {
			means(t, "few words", pack(func(p *packer) {
				p.dynamic(1, some(symbols, words), some(distances, map[int]int{0: 1, 1: 1}))
				p.word("abba")
				p.match(257, 0, 0, 0)
				p.match(257, 0, 1, 0)
				p.end()
			}), "abbaaaaaaa")
		}
	}
	means(t, "lengths up to 15", pack(func(p *packer) {
		l := make([]int, 286)
		for i := range 14 {
			l['a'+i] = i + 1
		}
		l['o'], l[256] = 15, 15
		p.dynamic(1, l, []int{0})
		p.word("abcdefghijklmno")
		p.end()
	}), "abcdefghijklmno")
	means(t, "of each kind", pack(func(p *packer) {
		p.dynamic(0, some(257, map[int]int{'x': 1, 256: 1}), []int{0})
		p.word("xx")
		p.end()
		p.stored(0, "yy")
		p.fixed(0)
		p.word("zz")
		p.end()
		p.dynamic(1, some(257, map[int]int{'x': 2, 'y': 2, 256: 1}), []int{0})
		p.word("yx")
		p.end()
	}), "xxyyzzyx")
}

func TestOneWordOrNone(t *testing.T) {
	end := some(257, map[int]int{256: 1})
	means(t, "only an end", pack(func(p *packer) {
		p.dynamic(1, end, []int{0})
		p.end()
	}), "")
	fails(t, "another word than the end", pack(func(p *packer) {
		p.dynamic(1, end, []int{0})
		p.Put(0xFFFF, 16)
	}), 10, api.ErrText)

	match := some(258, map[int]int{'a': 1, 256: 2, 257: 2})
	one := func(bit uint32) string {
		return pack(func(p *packer) {
			p.dynamic(1, match, []int{1})
			p.word("a")
			p.symbol(257)
			p.Put(bit, 1)
			p.end()
		})
	}
	means(t, "one distance", one(0), "aaaa")
	fails(t, "another distance", one(1), 10, api.ErrText)
	means(t, "no distance, and no match", pack(func(p *packer) {
		p.dynamic(1, match, make([]int, 30))
		p.word("a")
		p.end()
	}), "a")
	fails(t, "no distance, and a match", pack(func(p *packer) {
		p.dynamic(1, match, make([]int, 30))
		p.word("a")
		p.symbol(257)
		p.Put(0, 32)
	}), 10, api.ErrText)
}

// Lengths told by runs, which go on from the symbols into the distances.
func TestRuns(t *testing.T) {
	for _, c := range []struct {
		name               string
		symbols, distances int
		steps              [][]step
		word               string
		match              bool
	}{
		{"18 the most, the least", 257, 1, [][]step{{{18, 127}, {18, 95}, {18, 0}, {1, 0}, {1, 0}, {0, 0}}}, "\xff", false},
		{"17 the most, the least", 257, 1, [][]step{{{18, 127}}, slices.Repeat([]step{{17, 7}}, 11), {{17, 0}, {17, 1}, {1, 0}, {1, 0}, {0, 0}}}, "\xff", false},
		{"16 the most, the least", 257, 1, [][]step{{{8, 0}}, slices.Repeat([]step{{16, 3}}, 41), {{16, 0}, {16, 1}, {9, 0}, {9, 0}, {8, 0}, {0, 0}}}, everyByte(), false},
		{"16 of a 0", 257, 1, [][]step{{{0, 0}}, slices.Repeat([]step{{16, 3}}, 42), {{0, 0}, {0, 0}, {1, 0}, {1, 0}, {0, 0}}}, "\xff", false},
		{"16 behind 18", 257, 1, [][]step{{{18, 127}, {16, 3}, {18, 100}, {1, 0}, {1, 0}, {0, 0}}}, "\xff", false},
		{"16 behind 17", 257, 1, [][]step{{{18, 127}, {18, 89}, {17, 4}, {16, 3}, {0, 0}, {0, 0}, {0, 0}, {0, 0}, {1, 0}, {1, 0}, {0, 0}}}, "\xff", false},
		{"16 into the distances", 258, 4, [][]step{{{18, 127}, {18, 106}, {1, 0}, {2, 0}, {16, 2}}}, "\xff", true},
		{"16 of the last symbol's", 258, 4, [][]step{{{18, 127}, {18, 106}, {1, 0}, {2, 0}, {2, 0}, {16, 1}}}, "\xff", true},
		{"17 into the distances", 260, 4, [][]step{{{18, 127}, {18, 106}, {1, 0}, {1, 0}, {17, 4}}}, "\xff", false},
		{"18 into the distances", 286, 30, [][]step{{{18, 127}, {18, 106}, {1, 0}, {1, 0}, {18, 48}}}, "\xff", false},
	} {
		steps := slices.Concat(c.steps...)
		row := rowOf(steps)
		want := c.word
		s := pack(func(p *packer) {
			p.header(1, c.symbols-257, c.distances-1, 15, broad(), steps)
			p.use(row[:c.symbols], row[c.symbols:])
			p.word(c.word)
			if c.match {
				p.match(257, 0, 0, 0)
				want += strings.Repeat(c.word, 3)
			}
			p.end()
		})
		means(t, c.name, s, want)
	}
}

func rowOf(steps []step) []int {
	var row []int
	for _, s := range steps {
		switch s.symbol {
		case 16:
			row = append(row, slices.Repeat(row[len(row)-1:], 3+s.more)...)
		case 17:
			row = append(row, make([]int, 3+s.more)...)
		case 18:
			row = append(row, make([]int, 11+s.more)...)
		default:
			row = append(row, s.symbol)
		}
	}
	return row
}

// Of the lengths of lengths the last ones may be left away.
func TestFewLengthsOfLengths(t *testing.T) {
	row := append(append([]int{0}, slices.Repeat([]int{8}, 256)...), 0)
	for count := 1; count <= 15; count++ {
		means(t, fmt.Sprint(count+4, " lengths"), pack(func(p *packer) {
			p.header(1, 0, 0, count, some(19, map[int]int{0: 1, 8: 1}), each(row))
			p.use(row[:257], row[257:])
			p.word("\x01\xff\x80")
			p.end()
		}), "\x01\xff\x80")
	}
}

// P41

func TestLengths(t *testing.T) {
	from := strings.Fields("3 4 5 6 7 8 9 10 11 13 15 17 19 23 27 31 35 43 51 59 67 83 99 115 131 163 195 227 258")
	more := "00000000111122223333444455550"
	for i, f := range from {
		var least int
		fmt.Sscan(f, &least)
		for n := range 1 << (more[i] - '0') {
			means(t, fmt.Sprintf("symbol %d, %d more", 257+i, n), pack(func(p *packer) {
				p.fixed(1)
				p.word("a")
				p.match(257+i, n, 0, 0)
				p.word("b")
				p.end()
			}), strings.Repeat("a", 1+least+n)+"b")
		}
	}
}

func TestDistances(t *testing.T) {
	from := strings.Fields("1 2 3 4 5 7 9 13 17 25 33 49 65 97 129 193 257 385 513 769 1025 1537 2049 3073 4097 6145 8193 12289 16385 24577")
	m := mixer(2)
	ahead := m.bytes(32768, 256)
	for i, f := range from {
		var least int
		fmt.Sscan(f, &least)
		last := 1<<max(0, i/2-1) - 1
		for _, n := range []int{0, 1, last / 2, last} {
			if n > last {
				continue
			}
			want := []byte(ahead)
			for range 3 {
				want = append(want, want[len(want)-least-n])
			}
			means(t, fmt.Sprintf("distance %d, %d more", i, n), pack(func(p *packer) {
				p.stored(0, ahead)
				p.fixed(1)
				p.match(257, 0, i, n)
				p.end()
			}), string(want))
		}
	}
}

func TestMatchReachesIntoItself(t *testing.T) {
	means(t, "1 back", pack(func(p *packer) {
		p.fixed(1)
		p.word("a")
		p.match(259, 0, 0, 0)
		p.end()
	}), "aaaaaa")
	means(t, "3 back", pack(func(p *packer) {
		p.fixed(1)
		p.word("xabc")
		p.match(262, 0, 2, 0)
		p.end()
	}), "xabcabcabcab")
	means(t, "to the very beginning", pack(func(p *packer) {
		p.fixed(1)
		p.word("abcd")
		p.match(285, 0, 3, 0)
		p.end()
	}), strings.Repeat("abcd", 66)[:262])
}

// blocks of mixed kinds, with mixed codes, and what they mean.
func (m *mixer) blocks(count int) (packed, meant string) {
	var out []byte
	s := pack(func(p *packer) {
		for i := range count {
			last := 0
			if i == count-1 {
				last = 1
			}
			switch m.below(4) {
			case 0:
				s := m.bytes(m.below(40), 256)
				p.stored(last, s)
				out = append(out, s...)
				continue
			case 1:
				p.fixed(last)
			default:
				all := 257 + m.below(30)
				distances := 1 + m.below(30)
				p.dynamic(last, m.splits(1+m.below(all), all, 256), m.splits(1+m.below(distances), distances, 0))
			}
			out = m.tokens(p, out)
			p.end()
		}
	})
	return s, string(out)
}

func (m *mixer) tokens(p *packer, out []byte) []byte {
	for range m.below(60) {
		symbol := m.below(min(286, len(p.symbols)))
		if p.symbolWidth[symbol] == 0 || symbol == 256 {
			continue
		}
		if symbol < 256 {
			p.symbol(symbol)
			out = append(out, byte(symbol))
			continue
		}
		from, width := slowLength(symbol)
		distance := m.below(min(30, len(p.distances)))
		far, farWidth := slowDistance(distance)
		more, farMore := m.below(1<<width), m.below(1<<farWidth)
		if p.distanceWidth[distance] == 0 || far+farMore > len(out) || len(out) > 100000 {
			continue
		}
		p.match(symbol, more, distance, farMore)
		for range from + more {
			out = append(out, out[len(out)-far-farMore])
		}
	}
	return out
}

func TestMixedBlocks(t *testing.T) {
	m := mixer(3)
	for i := range 300 {
		s, want := m.blocks(1 + m.below(6))
		means(t, fmt.Sprint("text ", i), s, want)
		if got, used, err := slowInflate(s, api.MaxBytes); got != want || used != len(s) || err != nil {
			t.Fatalf("text %d: the slow reader: %s, %d, %v", i, short(got), used, err)
		}
	}
}

// texts that are packed well, and such that are not.
func (m *mixer) texts() []string {
	words := []string{"layer ", "cake ", "of ", "pictures ", "\n", "\x00\xff"}
	var b strings.Builder
	for b.Len() < 150000 {
		b.WriteString(words[m.below(len(words))])
	}
	return []string{"", "a", "abc", strings.Repeat("a", 299000), strings.Repeat("abcdefg", 9000), b.String(),
		everyByte(), m.bytes(1000, 2), m.bytes(50000, 4), m.bytes(299900, 256)[:200000]}
}

func libraryPacked(s string, level int) string {
	var b bytes.Buffer
	w, _ := flate.NewWriter(&b, level)
	io.WriteString(w, s)
	w.Close()
	return b.String()
}

func TestLibraryPacked(t *testing.T) {
	m := mixer(4)
	for _, want := range m.texts() {
		for _, level := range []int{flate.NoCompression, flate.BestSpeed, 6, flate.BestCompression, flate.HuffmanOnly} {
			means(t, fmt.Sprint("level ", level), libraryPacked(want, level), want)
		}
	}
}

// P42

func TestBounds(t *testing.T) {
	for _, most := range []int{-1, math.MinInt, api.MaxBytes + 1, math.MaxInt} {
		fails(t, "a good text", "\x03\x00", most, api.ErrBound)
		fails(t, "a wrong text", "\x07", most, api.ErrBound)
		fails(t, "nothing", "", most, api.ErrBound)
	}
	long := "\x03\x00" + strings.Repeat("x", api.MaxBytes-2)
	if s, used, err := Inflate(long, 0); s != "" || used != 2 || err != nil {
		t.Errorf("of the most bytes: %q, %d, %v", s, used, err)
	}
	fails(t, "one byte more", long+"x", 0, api.ErrBound)
	fails(t, "one byte more of a wrong text", "\x07"+long, 0, api.ErrBound)
}

func TestMost(t *testing.T) {
	stored := pack(func(p *packer) {
		p.stored(0, "abcdefg")
		p.stored(1, "hij")
	})
	bytewise := pack(func(p *packer) {
		p.fixed(1)
		p.word("abcdefghij")
		p.end()
	})
	matched := pack(func(p *packer) {
		p.fixed(1)
		p.word("abcd")
		p.match(260, 0, 3, 0)
		p.end()
	})
	for name, s := range map[string]string{"stored": stored, "bytes": bytewise, "a match": matched} {
		for most := range 10 {
			fails(t, name, s, most, api.ErrBound)
		}
		for _, most := range []int{10, 11, api.MaxBytes} {
			if got, used, err := Inflate(s, most); len(got) != 10 || used != len(s) || err != nil {
				t.Errorf("%s, most %d: %q, %d, %v", name, most, got, used, err)
			}
		}
	}
	all := strings.Repeat("a", api.MaxBytes)
	if got, _, err := Inflate(libraryPacked(all, 6), api.MaxBytes); got != all || err != nil {
		t.Errorf("the most that can be: %s, %v", short(got), err)
	}
	fails(t, "one byte more than can be", libraryPacked(all+"a", 6), api.MaxBytes, api.ErrBound)
	for most := range 2 {
		if got, used, err := Inflate("\x00\x00\x00\xff\xff\x03\x00", most); got != "" || used != 7 || err != nil {
			t.Errorf("nothing, most %d: %q, %d, %v", most, got, used, err)
		}
	}
}

// What comes first is told: what cannot be read ahead of a text that grows too long, and the other way round.
func TestFirstErrorIsTold(t *testing.T) {
	fails(t, "a distance too great, of a match too long", pack(func(p *packer) {
		p.fixed(1)
		p.word("abcd")
		p.match(257, 0, 4, 0)
		p.end()
	}), 4, api.ErrText)
	fails(t, "a distance that is none, of a match too long", pack(func(p *packer) {
		p.fixed(1)
		p.word("abcd")
		p.symbol(257)
		p.Turned(30, 5)
		p.end()
	}), 4, api.ErrText)
	fails(t, "bits end in a match too long", pack(func(p *packer) {
		p.fixed(1)
		p.word("ab\xff\xff") // so that less than a distance is left of the last byte
		p.symbol(257)
	}), 4, api.ErrText)
	fails(t, "a match too long, then an end of bits", pack(func(p *packer) {
		p.fixed(1)
		p.word("abcd")
		p.match(257, 0, 3, 0)
	}), 6, api.ErrBound)
	fails(t, "a byte too many, then a symbol that is none", pack(func(p *packer) {
		p.fixed(1)
		p.word("abcd")
		p.symbol(286)
	}), 3, api.ErrBound)
	fails(t, "a symbol that is none, then a byte too many", pack(func(p *packer) {
		p.fixed(1)
		p.word("abc")
		p.symbol(286)
		p.word("d")
	}), 3, api.ErrText)
	fails(t, "a stored block too long, not all there", "\x01\x05\x00\xfa\xffabcd", 2, api.ErrText)
	fails(t, "a stored block too long, that does not agree", "\x01\x04\x00\xfa\xffabcd", 2, api.ErrText)
	fails(t, "a stored block too long, then nothing", "\x00\x04\x00\xfb\xffabcd", 2, api.ErrBound)
	fails(t, "a stored block too long, then a kind that is none", "\x00\x04\x00\xfb\xffabcd\x07", 2, api.ErrBound)
	fails(t, "a text as long as may be, then a kind that is none", "\x00\x04\x00\xfb\xffabcd\x07", 4, api.ErrText)
	fails(t, "no word for the end, then a byte too many", pack(func(p *packer) {
		p.dynamic(1, some(257, map[int]int{'a': 1, 'b': 1}), []int{0})
		p.word("ab")
	}), 0, api.ErrText)
	fails(t, "a byte too many, then a wrong header", pack(func(p *packer) {
		p.fixed(0)
		p.word("ab")
		p.end()
		p.head(1, 3)
	}), 1, api.ErrBound)
}

func TestWrongTexts(t *testing.T) {
	// What would be right, but for what is wrong with it, is followed by bytes enough.
	rest := strings.Repeat("\x00", 400)
	for name, s := range map[string]string{
		"kind 3":                       "\x07",
		"kind 3, not the last":         "\x06",
		"a stored length is the same":  "\x01\x03\x00\x03\x00abc",
		"its lower byte is wrong":      "\x01\x03\x00\xfd\xffabc",
		"its upper byte is wrong":      "\x01\x03\x00\xfc\xfeabc",
		"its bytes stand turned round": "\x01\x00\x03\xff\xfdabc",
	} {
		fails(t, name, s+rest, api.MaxBytes, api.ErrText)
	}
	for _, symbol := range []int{286, 287} {
		fails(t, fmt.Sprint("symbol ", symbol), pack(func(p *packer) {
			p.fixed(1)
			p.word("abc")
			p.symbol(symbol)
		})+rest, api.MaxBytes, api.ErrText)
	}
	for _, distance := range []uint32{30, 31} {
		fails(t, fmt.Sprint("distance ", distance), pack(func(p *packer) {
			p.stored(0, strings.Repeat("x", 65535))
			p.fixed(1)
			p.symbol(257)
			p.Turned(distance, 5)
		})+rest, api.MaxBytes, api.ErrText)
	}
	for written := range 3 {
		fails(t, fmt.Sprint("3 back, of ", written), pack(func(p *packer) {
			p.fixed(1)
			p.word("abc"[:written])
			p.match(257, 0, 2, 0)
			p.end()
		})+rest, api.MaxBytes, api.ErrText)
	}
}

func TestWrongHeaders(t *testing.T) {
	good := some(257, map[int]int{'a': 1, 256: 1})
	for name, c := range map[string]struct {
		symbols, distances, count int
		own                       []int
		steps                     []step
	}{
		"287 symbols":                     {30, 0, 15, broad(), each(append(slices.Clone(good), make([]int, 31)...))},
		"288 symbols":                     {31, 0, 15, broad(), each(append(slices.Clone(good), make([]int, 32)...))},
		"31 distances":                    {0, 30, 15, broad(), each(append(slices.Clone(good), make([]int, 31)...))},
		"32 distances":                    {0, 31, 15, broad(), each(append(slices.Clone(good), make([]int, 32)...))},
		"no length of lengths":            {0, 0, 15, make([]int, 19), nil},
		"a length of lengths, of 2 bits":  {0, 0, 15, some(19, map[int]int{0: 2}), nil},
		"too few lengths of lengths":      {0, 0, 15, some(19, map[int]int{0: 1, 1: 2}), nil},
		"too many lengths of lengths":     {0, 0, 15, some(19, map[int]int{0: 1, 1: 1, 2: 1}), nil},
		"a word that no length has":       {0, 0, 15, some(19, map[int]int{1: 1}), nil},
		"symbols too few":                 {0, 0, 15, broad(), each(append(some(257, map[int]int{'a': 1, 256: 2}), 0))},
		"symbols too many":                {0, 0, 15, broad(), each(append(some(257, map[int]int{'a': 1, 'b': 2, 256: 1}), 0))},
		"one symbol, of 2 bits":           {0, 0, 15, broad(), each(append(some(257, map[int]int{256: 2}), 0))},
		"distances too few":               {0, 2, 15, broad(), each(append(slices.Clone(good), 1, 2, 0))},
		"distances too many":              {0, 2, 15, broad(), each(append(slices.Clone(good), 1, 1, 1))},
		"one distance, of 2 bits":         {0, 0, 15, broad(), each(append(slices.Clone(good), 2))},
		"a length again with none ahead":  {0, 0, 15, broad(), append([]step{{16, 0}}, each(append(slices.Clone(good[3:]), 0))...)},
		"16 goes too far":                 {0, 1, 15, broad(), append(each(good), step{1, 0}, step{16, 0})},
		"17 goes too far":                 {0, 1, 15, broad(), append(each(good), step{17, 0})},
		"18 goes too far":                 {0, 9, 15, broad(), append(each(good), step{18, 0})},
		"18 goes far too far":             {29, 29, 15, broad(), []step{{18, 127}, {18, 127}, {18, 127}}},
		"no word for the end":             {0, 0, 15, broad(), each(append(some(257, map[int]int{'a': 1, 'b': 1}), 0))},
		"no word at all":                  {0, 0, 15, broad(), each(make([]int, 258))},
		"no word at all, but of a length": {1, 0, 15, broad(), each(append(some(258, map[int]int{257: 1}), 0))},
	} {
		for _, rest := range []string{strings.Repeat("\x00", 400), strings.Repeat("\xff", 400)} {
			fails(t, name, pack(func(p *packer) { p.header(1, c.symbols, c.distances, c.count, c.own, c.steps) })+rest, api.MaxBytes, api.ErrText)
		}
	}
}

func TestBitsEnd(t *testing.T) {
	m := mixer(5)
	fails(t, "nothing", "", 10, api.ErrText)
	for range 12 {
		s, want := m.blocks(4)
		for n := range s {
			fails(t, fmt.Sprint(n, " of ", len(s)), s[:n], len(want), api.ErrText)
		}
	}
	for _, want := range m.texts()[1:4] {
		s := libraryPacked(want, 6)
		for n := range s {
			fails(t, fmt.Sprint(n, " of ", len(s)), s[:n], api.MaxBytes, api.ErrText)
		}
	}
}

func TestUsed(t *testing.T) {
	// The end of a fixed block, behind so many bytes of 8 bits and of 9, is in each place of a byte.
	for n := range 9 {
		s := pack(func(p *packer) {
			p.fixed(1)
			p.word(strings.Repeat("\xff", n))
			p.end()
		})
		if _, used, err := Inflate(s+"rest", 10); used != (3+9*n+7+7)/8 || err != nil {
			t.Errorf("%d bytes: %d, %v", n, used, err)
		}
	}
}

// P43

func zipped(s string) string {
	var b bytes.Buffer
	w := zlib.NewWriter(&b)
	io.WriteString(w, s)
	w.Close()
	return b.String()
}

func unzipFails(t *testing.T, name, s string, most int, want error) {
	t.Helper()
	if got, err := Unzip(s, most); got != "" || err != want {
		t.Errorf("%s, most %d: %s, %v, want %v", name, most, short(got), err, want)
	}
}

func TestUnzip(t *testing.T) {
	m := mixer(6)
	for _, want := range m.texts() {
		s := zipped(want)
		if got, err := Unzip(s, len(want)); got != want || err != nil {
			t.Errorf("%s: %s, %v", short(want), short(got), err)
		}
		unzipFails(t, "a byte behind", s+"\x00", len(want), api.ErrText)
		if want != "" {
			unzipFails(t, "a byte more than most", s, len(want)-1, api.ErrBound)
		}
	}
}

func TestUnzipHeads(t *testing.T) {
	rest := zipped("abc")[2:]
	right := 0
	for first := range 256 {
		for second := range 256 {
			s := string([]byte{byte(first), byte(second)}) + rest
			if first%16 == 8 && first/16 < 8 && (256*first+second)%31 == 0 && second/32%2 == 0 {
				right++
				if got, err := Unzip(s, 3); got != "abc" || err != nil {
					t.Errorf("%02x %02x: %q, %v", first, second, got, err)
				}
			} else {
				unzipFails(t, fmt.Sprintf("%02x %02x", first, second), s, 3, api.ErrText)
			}
		}
	}
	if right != 32 {
		t.Errorf("%d heads are right", right)
	}
}

func TestUnzipErrors(t *testing.T) {
	good := zipped("abc")
	for n := range good {
		unzipFails(t, fmt.Sprint(n, " bytes"), good[:n], 3, api.ErrText)
	}
	for bit := range 32 {
		s := []byte(good)
		s[len(s)-1-bit/8] ^= 1 << (bit % 8)
		unzipFails(t, fmt.Sprint("bit ", bit, " of the sum"), string(s), 3, api.ErrSum)
		unzipFails(t, "a wrong sum, and a byte behind", string(s)+"x", 3, api.ErrText)
		unzipFails(t, "a wrong sum, of a text too long", string(s), 2, api.ErrBound)
		unzipFails(t, "a wrong sum, not all there", string(s[:len(s)-1]), 3, api.ErrText)
	}
	// The sum's bytes stand from the highest on.
	turned := []byte(good)
	slices.Reverse(turned[len(turned)-4:])
	unzipFails(t, "a sum turned round", string(turned), 3, api.ErrSum)
	unzipFails(t, "a wrong packed text", "\x78\x9c\x07"+good[3:], 3, api.ErrText)
	unzipFails(t, "a text too long, and no sum", good[:len(good)-4], 2, api.ErrBound)
	unzipFails(t, "a wrong head, and a text too long", "\x78\x9d"+good[2:], 2, api.ErrText)
}

func TestUnzipBounds(t *testing.T) {
	for _, most := range []int{-1, math.MinInt, api.MaxBytes + 1, math.MaxInt} {
		for _, s := range []string{zipped("abc"), "", "x", "\x78\x9d"} {
			unzipFails(t, short(s), s, most, api.ErrBound)
		}
	}
	// The head and the sum count among the bytes that are handed in.
	var text strings.Builder
	s := "\x78\x01" + pack(func(p *packer) {
		m := mixer(7)
		for _, n := range []int{65535, 65535, 65535, 65535, 300000 - 6 - 5*5 - 4*65535} {
			b := m.bytes(n, 256)
			last := 0
			if n != 65535 {
				last = 1
			}
			p.stored(last, b)
			text.WriteString(b)
		}
	})
	s += zipped(text.String())[len(zipped(text.String()))-4:]
	if len(s) != api.MaxBytes {
		t.Fatal(len(s))
	}
	if got, err := Unzip(s, api.MaxBytes); got != text.String() || err != nil {
		t.Errorf("the most bytes: %s, %v", short(got), err)
	}
	unzipFails(t, "one byte more", s+"x", api.MaxBytes, api.ErrBound)
	unzipFails(t, "one byte more, and a wrong head", "x"+s, api.MaxBytes, api.ErrBound)
}

// P44

// spoilt: a text with some bits turned, bytes changed or taken away.
func (m *mixer) spoilt(s string) string {
	l := []byte(s)
	for range m.below(4) {
		if len(l) == 0 {
			break
		}
		i := m.below(len(l))
		switch m.below(5) {
		case 0:
			l[i] = byte(m.below(256))
		case 1:
			l = slices.Delete(l, i, i+1)
		case 2:
			l = slices.Insert(l, i, byte(m.below(256)))
		default:
			l[i] ^= 1 << m.below(8)
		}
	}
	return string(l)
}

// held: Inflate tells what the slow reader tells, and reads what the library reads.
func held(t *testing.T, s string, most int) error {
	t.Helper()
	throwsRight(t, s, most)
	text, used, err := Inflate(s, most)
	want, wantUsed, wantErr := slowInflate(s, most)
	if text != want || used != wantUsed || err != wantErr {
		t.Fatalf("%q, most %d: %s, %d, %v, want %s, %d, %v", s, most, short(text), used, err, short(want), wantUsed, wantErr)
	}
	r := strings.NewReader(s)
	l, libraryErr := io.ReadAll(io.LimitReader(flate.NewReader(r), api.MaxBytes))
	if err == nil && (string(l) != text || len(s)-r.Len() != used || libraryErr != nil) {
		t.Fatalf("%q: %s, %d, but the library: %s, %d, %v", s, short(text), used, short(string(l)), len(s)-r.Len(), libraryErr)
	}
	if err == api.ErrText && libraryErr == nil && len(l) < api.MaxBytes {
		t.Fatalf("%q: %v, but the library: %s", s, err, short(string(l)))
	}
	return err
}

func TestWhateverIsHandedIn(t *testing.T) {
	m := mixer(8)
	told := map[error]int{}
	for range 400 {
		s, text := m.blocks(1 + m.below(4))
		for range 8 {
			told[held(t, m.spoilt(s), m.below(len(text)+2))]++
			told[held(t, m.spoilt(s), min(2*len(text), api.MaxBytes))]++
		}
	}
	for range 30000 {
		s := []byte(m.bytes(m.below(60), 256))
		if len(s) > 0 && m.below(2) == 0 {
			s[0] = s[0]&^7 | 5
		}
		told[held(t, string(s), m.below(100))]++
		unzipHeld(t, "\x78\x01"+string(s), m.below(100))
	}
	for _, err := range []error{nil, api.ErrText, api.ErrBound} {
		if told[err] < 200 {
			t.Errorf("%v is told only %d times", err, told[err])
		}
	}
}

func unzipHeld(t *testing.T, s string, most int) {
	t.Helper()
	got, err := Unzip(s, most)
	_, used, wantErr := slowInflate(s[2:], most)
	if wantErr == nil {
		wantErr = api.ErrSum
		if len(s)-2-used != 4 {
			wantErr = api.ErrText
		}
	}
	if got != "" || err != wantErr {
		t.Fatalf("%q, most %d: %q, %v, want %v", s, most, got, err, wantErr)
	}
}

// A great many blocks, each as short as can be.
func TestManyBlocks(t *testing.T) {
	for name, f := range map[string]func(p *packer){
		"fixed": func(p *packer) {
			p.head(0, 1)
			p.Put(0, 7)
		},
		"stored": func(p *packer) { p.stored(0, "") },
		"dynamic": func(p *packer) {
			p.header(0, 0, 0, 14, some(19, map[int]int{18: 1, 1: 2, 0: 2}), []step{{18, 127}, {18, 106}, {0, 0}, {1, 0}, {0, 0}})
			p.Put(0, 1)
		},
	} {
		s := pack(func(p *packer) {
			for p.Len() < 8*(api.MaxBytes-100) {
				f(p)
			}
			p.stored(1, "x")
		})
		if got, used, err := Inflate(s, 1); got != "x" || used != len(s) || err != nil {
			t.Errorf("%s: %q, %d, %v", name, got, used, err)
		}
	}
}
