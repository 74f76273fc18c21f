package deflate

import (
	"compress/flate"
	"compress/zlib"
	"errors"
	"fmt"
	"io"
	"math"
	"slices"
	"strings"
	"testing"

	"layercake/api"
	"layercake/huff"
	"layercake/inflate"
	"layercake/match"
	"layercake/sum"
)

// mixer makes mixed numbers, the same ones at each run.
type mixer uint64

func (m *mixer) below(n int) int {
	*m = *m*6364136223846793005 + 1442695040888963407
	return int(*m>>33) % n
}

func (m *mixer) bytes(n, unlike int) string {
	l := make([]byte, n)
	for i := range l {
		l[i] = byte(m.below(unlike))
	}
	return string(l)
}

// skewed bytes: each next one half as often as the one ahead of it.
func (m *mixer) skewed(n int) string {
	l := make([]byte, n)
	for i := range l {
		for m.below(2) == 0 && l[i] < 255 {
			l[i]++
		}
	}
	return string(l)
}

func (m *mixer) words(n int) string {
	words := []string{"layer ", "cake ", "of ", "pictures ", "\n", "\x00\xff"}
	var b strings.Builder
	for b.Len() < n {
		b.WriteString(words[m.below(len(words))])
	}
	return b.String()[:n]
}

type sample struct{ name, text string }

// samples of so many bytes each, from such as are packed well to such as are not at all.
func (m *mixer) samples(n int) []sample {
	list := []sample{
		{"one byte", strings.Repeat("\xff", n)},
		{"two bytes", strings.Repeat("ab", n)[:n]},
		{"words", m.words(n)},
		{"skewed", m.skewed(n)},
		{"half words, half mixed", m.words(n/2) + m.bytes(n-n/2, 256)},
	}
	for _, unlike := range []int{2, 3, 16, 200, 256} {
		list = append(list, sample{fmt.Sprint("mixed of ", unlike), m.bytes(n, unlike)})
	}
	return list
}

// tokens, bytes and matches of all lengths and distances that can be there.
func (m *mixer) tokens(n, unlike int) []api.Token {
	var l []api.Token
	size := 0
	for range n {
		if size == 0 || m.below(3) > 0 {
			l = append(l, byteOf(byte(m.below(unlike))))
			size++
			continue
		}
		length := 3 + m.below(256)>>m.below(8)
		behind := 1 + m.below(min(size, 32768))>>m.below(15)
		l = append(l, matchOf(length, behind))
		size += length
	}
	return l
}

func byteOf(b uint8) api.Token { return api.Token{Byte: b} }

func matchOf(length, behind int) api.Token { return api.Token{Length: length, Behind: behind} }

func bytesAlone(s string) []api.Token {
	var l []api.Token
	for i := range len(s) {
		l = append(l, byteOf(s[i]))
	}
	return l
}

func everyByte() string {
	l := make([]byte, 256)
	for i := range l {
		l[i] = byte(i)
	}
	return string(l)
}

func tokensOf(t *testing.T, s string) []api.Token {
	t.Helper()
	l, err := match.Tokens(s, api.MaxWindow)
	if err != nil {
		t.Fatal(err)
	}
	return l
}

func short(s string) string {
	if len(s) > 60 {
		return fmt.Sprintf("%q.. (%d)", s[:60], len(s))
	}
	return fmt.Sprintf("%q", s)
}

// read (P64): all bytes of what is packed are a packed text of s, for Inflate and for the library. What is longer than Inflate takes is read by the library alone.
func read(t *testing.T, name, packed, s string) {
	t.Helper()
	if len(packed) <= api.MaxBytes {
		if got, used, err := inflate.Inflate(packed, len(s)); got != s || used != len(packed) || err != nil {
			t.Errorf("%s: %s, %d of %d, %v, want %s", name, short(got), used, len(packed), err, short(s))
		}
	}
	r := strings.NewReader(packed)
	if l, err := io.ReadAll(flate.NewReader(r)); string(l) != s || r.Len() != 0 || err != nil {
		t.Errorf("%s: the library: %s, %d left, %v, want %s", name, short(string(l)), r.Len(), err, short(s))
	}
}

// P60

func TestStored(t *testing.T) {
	for s, want := range map[string]string{
		"":    "\x01\x00\x00\xff\xff",
		"a":   "\x01\x01\x00\xfe\xffa",
		"abc": "\x01\x03\x00\xfc\xffabc",
	} {
		if got, err := Stored(s); got != want || err != nil {
			t.Errorf("%q: %q, %v", s, got, err)
		}
	}
	m := mixer(1)
	for _, n := range []int{0, 1, 255, 256, 257, 65534, 65535, 65536, 131069, 131070, 131071, 196605, 262140, 262141, 299975, 299976, 299999, 300000} {
		s := m.bytes(n, 256)
		got, err := Stored(s)
		if got != slowStored(s) || err != nil {
			t.Errorf("%d bytes: %s, %v", n, short(got), err)
		}
		if blocks := max(1, (n+65534)/65535); len(got) != n+5*blocks {
			t.Errorf("%d bytes: %d packed, of %d blocks", n, len(got), blocks)
		}
		read(t, fmt.Sprint(n, " bytes"), got, s)
	}
}

// P60, P63

func TestTooManyBytes(t *testing.T) {
	for name, f := range map[string]func(string) (string, error){"Stored": Stored, "Deflate": Deflate, "Zip": Zip} {
		for _, n := range []int{api.MaxBytes + 1, 2 * api.MaxBytes, 1 << 24} {
			if got, err := f(strings.Repeat("a", n)); got != "" || err != api.ErrBound {
				t.Errorf("%s, %d bytes: %s, %v", name, n, short(got), err)
			}
		}
		if got, err := f(strings.Repeat("a", api.MaxBytes)); got == "" || err != nil {
			t.Errorf("%s, as many as may be: %s, %v", name, short(got), err)
		}
	}
}

// P61

func fixes(t *testing.T, name string, l []api.Token, want string) {
	t.Helper()
	got, err := Fixed(l)
	if got != want || err != nil {
		t.Errorf("%s: %s, %v, want %s", name, short(got), err, short(want))
	}
	s, _ := match.Expand(l)
	read(t, name, got, s)
}

func TestFixedExamples(t *testing.T) {
	fixes(t, "nil", nil, "\x03\x00")
	fixes(t, "nothing", []api.Token{}, "\x03\x00")
	fixes(t, "the byte a", bytesAlone("a"), "\x4b\x04\x00")
	fixes(t, "abc", bytesAlone("abc"), "\x4b\x4c\x4a\x06\x00")
	fixes(t, "258 by 285", []api.Token{byteOf('a'), matchOf(258, 1)}, "\x4b\x1c\x05\x00")
	fixes(t, "all bytes", bytesAlone(everyByte()), slowFixed(bytesAlone(everyByte())))
	// The end of the block stands in each place of a byte.
	for n := range 9 {
		l := bytesAlone(strings.Repeat("\xff", n))
		fixes(t, fmt.Sprint(n, " of 9 bits"), l, slowFixed(l))
	}
}

func TestFixedLengths(t *testing.T) {
	for n := 3; n <= 258; n++ {
		l := []api.Token{byteOf('a'), matchOf(n, 1), byteOf('b')}
		fixes(t, fmt.Sprint("length ", n), l, slowFixed(l))
	}
}

func TestFixedDistances(t *testing.T) {
	m := mixer(2)
	ahead := bytesAlone(m.bytes(32768, 256))
	for width := range 15 {
		for _, behind := range []int{1 << width, 1<<width + 1, 1<<width + 1<<width/2, 1<<width + 1<<width/2 + 1, 2<<width - 1, 2 << width} {
			l := append(slices.Clone(ahead), matchOf(3, behind), matchOf(4, behind))
			fixes(t, fmt.Sprint("distance ", behind), l, slowFixed(l))
		}
	}
}

func TestFixedMixed(t *testing.T) {
	m := mixer(3)
	for i := range 300 {
		l := m.tokens(m.below(60), 1+m.below(256))
		fixes(t, fmt.Sprint("list ", i), l, slowFixed(l))
	}
	for _, x := range m.samples(20000) {
		l := tokensOf(t, x.text)
		fixes(t, x.name, l, slowFixed(l))
	}
}

// P62

// counts of the symbols and the distances in a block of tokens.
func counts(l []api.Token) (symbols, distances []int) {
	symbols, distances = make([]int, 286), make([]int, 30)
	for _, x := range l {
		symbol := int(x.Byte)
		if x.Length > 0 {
			symbol, _, _ = slowLength(x.Length)
			distance, _, _ := slowDistance(x.Behind)
			distances[distance]++
		}
		symbols[symbol]++
	}
	symbols[256]++
	return symbols, distances
}

// costsLittle: the lengths, and 0 behind them, are right and cost no more than those of huff.Lengths.
func costsLittle(t *testing.T, name string, counts, lengths []int) {
	t.Helper()
	if err := huff.Valid(lengths); err != nil {
		t.Errorf("%s: %v of %v", name, err, lengths)
	}
	all := append(slices.Clone(lengths), make([]int, len(counts)-len(lengths))...)
	best, _ := huff.Lengths(counts, api.MaxCode)
	most, _ := huff.Cost(counts, best)
	got, err := huff.Cost(counts, all)
	if got > most || err != nil {
		t.Errorf("%s: the code costs %d, %v, want %d", name, got, err, most)
	}
	for symbol, n := range counts {
		if n > 0 && all[symbol] == 0 {
			t.Errorf("%s: symbol %d has no word", name, symbol)
		}
	}
}

func packs(t *testing.T, name string, l []api.Token) string {
	t.Helper()
	packed, err := Dynamic(l)
	if err != nil {
		t.Errorf("%s: %v", name, err)
		return ""
	}
	s, _ := match.Expand(l)
	read(t, name, packed, s)
	r := &slow{rest: bitsOf(packed)}
	if !r.header() {
		t.Errorf("%s: %s is no dynamic block", name, short(packed))
		return ""
	}
	symbols, distances := counts(l)
	costsLittle(t, name+", symbols", symbols, r.symbols)
	costsLittle(t, name+", distances", distances, r.distances)
	if got := r.tokens(); !slices.Equal(got, l) {
		t.Errorf("%s: %d other tokens, want %d", name, len(got), len(l))
	}
	if len(r.rest) > 7 || strings.Contains(r.rest, "1") {
		t.Errorf("%s: %s behind the end", name, short(r.rest))
	}
	return packed
}

func TestDynamicEdges(t *testing.T) {
	all := bytesAlone(everyByte())
	for name, l := range map[string][]api.Token{
		"nil":                   nil,
		"nothing":               {},
		"one byte":              bytesAlone("a"),
		"the first byte":        bytesAlone("\x00"),
		"the last byte":         bytesAlone("\xff"),
		"two bytes":             bytesAlone("ab"),
		"one byte, often":       bytesAlone(strings.Repeat("a", 1000)),
		"all bytes":             all,
		"one distance":          {byteOf('a'), matchOf(5, 1)},
		"one distance, often":   append(bytesAlone("ab"), matchOf(258, 2), matchOf(258, 2), matchOf(3, 2)),
		"one that is not first": append(bytesAlone("abcd"), matchOf(3, 4)),
		"two distances":         append(bytesAlone("ab"), matchOf(257, 2), matchOf(258, 1)),
		"the last distance":     append(bytesAlone(strings.Repeat("x", 32768)), matchOf(3, 32768)),
	} {
		packs(t, name, l)
	}
	for n := 3; n <= 258; n++ {
		packs(t, fmt.Sprint("length ", n), []api.Token{byteOf('a'), matchOf(n, 1), byteOf('b')})
	}
}

func TestDynamicAllSymbolsAndDistances(t *testing.T) {
	m := mixer(4)
	l := bytesAlone(m.bytes(32768, 256))
	for n := 3; n <= 258; n++ {
		l = append(l, matchOf(n, 1+m.below(32768)))
	}
	for width := range 15 {
		l = append(l, matchOf(3, 1<<width), matchOf(3, 1<<width+1), matchOf(3, 1<<width+1<<width/2+1), matchOf(3, 2<<width))
	}
	packs(t, "all", l)
}

// fibonacci: so many counts, each of which is the sum of the two ahead of it: a code without a bound has words of one bit less than there are.
func fibonacci(n int) []int {
	l := []int{1, 1}
	for len(l) < n {
		l = append(l, l[len(l)-1]+l[len(l)-2])
	}
	return l
}

func longest(packed string) (symbol, distance int) {
	r := &slow{rest: bitsOf(packed)}
	r.header()
	return slices.Max(r.symbols), slices.Max(r.distances)
}

func TestDynamicLongWords(t *testing.T) {
	for unlike := 12; unlike <= 24; unlike++ {
		var l []api.Token
		// The block's end has the first count.
		for i, n := range fibonacci(unlike + 1)[1:] {
			l = append(l, bytesAlone(strings.Repeat(string([]byte{byte(i)}), n))...)
		}
		if n, _ := longest(packs(t, fmt.Sprint(unlike, " bytes"), l)); n != min(unlike, 15) {
			t.Errorf("%d bytes: words of %d bits", unlike, n)
		}
		l = bytesAlone(strings.Repeat("x", 1025))
		from := 1
		for symbol, n := range fibonacci(unlike - 3) {
			l = append(l, slices.Repeat([]api.Token{matchOf(3, from)}, n)...)
			from += 1 << max(0, symbol/2-1)
		}
		if _, n := longest(packs(t, fmt.Sprint(unlike-3, " distances"), l)); n != min(unlike-4, 15) {
			t.Errorf("%d distances: words of %d bits", unlike-3, n)
		}
	}
}

func TestDynamicMixed(t *testing.T) {
	m := mixer(5)
	for i := range 400 {
		packs(t, fmt.Sprint("list ", i), m.tokens(m.below(300), 1+m.below(256)))
	}
	for _, n := range []int{1, 2, 10, 300, 20000} {
		for _, x := range m.samples(n) {
			packs(t, fmt.Sprint(x.name, ", ", n), tokensOf(t, x.text))
			packs(t, fmt.Sprint(x.name, ", ", n, ", bytes alone"), bytesAlone(x.text))
		}
	}
}

// Lengths in runs of each kind, by bytes that stand apart.
func TestDynamicRuns(t *testing.T) {
	for gap := 1; gap <= 150; gap++ {
		for same := 1; same <= 24; same++ {
			l := []byte{0}
			for i := range same {
				l = append(l, byte(gap+i))
			}
			packs(t, fmt.Sprint(gap, " apart, ", same, " in a row"), bytesAlone(string(l)))
		}
	}
}

// A block says little that it need not say.
func TestDynamicIsShort(t *testing.T) {
	m := mixer(6)
	for _, c := range []struct {
		name string
		l    []api.Token
		most int
	}{
		{"nothing", nil, 14},
		{"one byte, often", append(bytesAlone("a"), slices.Repeat([]api.Token{matchOf(258, 1)}, 1000)...), 270},
		{"mixed of 2, bytes alone", bytesAlone(m.bytes(8000, 2)), 1600},
	} {
		if got := packs(t, c.name, c.l); len(got) > c.most {
			t.Errorf("%s: %d bytes, want at most %d", c.name, len(got), c.most)
		}
	}
}

// P61, P62: wrong tokens

// full: tokens that mean as many bytes as there may be.
func full() []api.Token {
	l := append([]api.Token{byteOf('a')}, slices.Repeat([]api.Token{matchOf(258, 1)}, 1162)...)
	return append(l, matchOf(203, 1))
}

func tokensFail(t *testing.T, l []api.Token, at int, want error) {
	t.Helper()
	for name, f := range map[string]func([]api.Token) (string, error){"Fixed": Fixed, "Dynamic": Dynamic} {
		got, err := f(l)
		var fault *api.Fault
		if got != "" || !errors.As(err, &fault) || fault.At != at || fault.Err != want {
			t.Errorf("%s of %d tokens: %s, %#v, want %v at %d", name, len(l), short(got), err, want, at)
		}
	}
}

func TestWrongTokens(t *testing.T) {
	for _, wrong := range []api.Token{
		{Length: 1, Behind: 1}, {Length: 2, Behind: 1}, {Length: 259, Behind: 1}, {Length: -1, Behind: 1}, {Length: -3, Behind: 1},
		{Length: math.MaxInt, Behind: 1}, {Length: math.MinInt, Behind: 1},
		{Length: 3}, {Length: 3, Behind: -1}, {Length: 3, Behind: 32769}, {Length: 3, Behind: math.MaxInt}, {Length: 3, Behind: math.MinInt},
		{Byte: 'a', Length: 3, Behind: 1}, {Byte: 'a', Behind: 1}, {Behind: 1}, {Behind: -1},
	} {
		tokensFail(t, []api.Token{wrong}, 0, api.ErrShape)
		tokensFail(t, append(bytesAlone("abc"), wrong, byteOf('d')), 3, api.ErrShape)
		tokensFail(t, append(bytesAlone(strings.Repeat("x", 40000)), wrong, wrong), 40000, api.ErrShape)
	}
	tokensFail(t, []api.Token{matchOf(3, 1)}, 0, api.ErrShape)
	tokensFail(t, append(bytesAlone("abc"), matchOf(3, 4)), 3, api.ErrShape)
}

func TestTooManyTokens(t *testing.T) {
	for name, l := range map[string][]api.Token{"matches": full(), "bytes": bytesAlone(strings.Repeat("a", api.MaxBytes))} {
		fixes(t, name, l, slowFixed(l))
		packs(t, name, l)
		tokensFail(t, append(l, byteOf('b')), len(l), api.ErrBound)
		tokensFail(t, append(l, matchOf(3, 1), byteOf('b')), len(l), api.ErrBound)
	}
	tokensFail(t, slices.Repeat([]api.Token{byteOf('a')}, 1<<21), api.MaxBytes, api.ErrBound)
}

// P63

// deflates: Deflate and Zip pack a text, in no more bytes than Stored (and in no more than its tokens need one way or the other).
func deflates(t *testing.T, name, s string) string {
	t.Helper()
	packed, err := Deflate(s)
	if err != nil {
		t.Errorf("%s: %v", name, err)
	}
	read(t, name, packed, s)
	l := tokensOf(t, s)
	a, _ := Stored(s)
	b, _ := Fixed(l)
	c, _ := Dynamic(l)
	if len(packed) > min(len(a), len(b), len(c)) {
		t.Errorf("%s: %d bytes, but %d, %d, %d", name, len(packed), len(a), len(b), len(c))
	}
	zips(t, name, s, packed)
	return packed
}

func zips(t *testing.T, name, s, packed string) {
	t.Helper()
	z, err := Zip(s)
	if len(z) != len(packed)+6 || err != nil {
		t.Errorf("%s: %d bytes zipped, %d packed, %v", name, len(z), len(packed), err)
		return
	}
	if len(z) <= api.MaxBytes {
		if got, err := inflate.Unzip(z, len(s)); got != s || err != nil {
			t.Errorf("%s: %s, %v, want %s", name, short(got), err, short(s))
		}
	}
	tail := z[len(z)-4:]
	if n := uint32(tail[0])<<24 | uint32(tail[1])<<16 | uint32(tail[2])<<8 | uint32(tail[3]); n != sum.Adler(s) {
		t.Errorf("%s: the sum is %08x", name, n)
	}
	r, err := zlib.NewReader(strings.NewReader(z))
	if err != nil {
		t.Errorf("%s: the library: %v", name, err)
		return
	}
	if got, err := io.ReadAll(r); string(got) != s || err != nil {
		t.Errorf("%s: the library: %s, %v", name, short(string(got)), err)
	}
}

func TestDeflateShortTexts(t *testing.T) {
	m := mixer(7)
	deflates(t, "nothing", "")
	for b := range 256 {
		deflates(t, fmt.Sprint("byte ", b), string([]byte{byte(b)}))
	}
	for n := range 80 {
		for _, x := range m.samples(n) {
			deflates(t, fmt.Sprint(x.name, ", ", n), x.text)
		}
	}
}

func TestDeflateLongTexts(t *testing.T) {
	m := mixer(8)
	for _, n := range []int{1000, 3000, 3001, 65535, 65536, 140000} {
		for _, x := range m.samples(n) {
			deflates(t, fmt.Sprint(x.name, ", ", n), x.text)
		}
	}
	deflates(t, "all bytes", everyByte())
}

func TestDeflateTheLongestTexts(t *testing.T) {
	m := mixer(9)
	for _, x := range m.samples(api.MaxBytes) {
		deflates(t, x.name, x.text)
	}
}

// Of bytes that cannot be packed, as many as Inflate and Unzip take once they are.
func TestDeflateAsManyAsAreRead(t *testing.T) {
	m := mixer(10)
	s := m.bytes(api.MaxBytes, 256)
	if packed := deflates(t, "for Inflate", s[:api.MaxBytes-25]); len(packed) > api.MaxBytes {
		t.Errorf("%d bytes", len(packed))
	}
	if packed := deflates(t, "for Unzip", s[:api.MaxBytes-31]); len(packed)+6 > api.MaxBytes {
		t.Errorf("%d bytes", len(packed))
	}
}

// Each way is the best one of some texts.
func TestDeflateTakesEachWay(t *testing.T) {
	m := mixer(11)
	for kind, s := range []string{m.bytes(5000, 256), "the cat sat on the mat, the cat sat", m.words(50000)} {
		if packed := deflates(t, short(s), s); int(packed[0]>>1&3) != kind {
			t.Errorf("%s: kind %d, want %d", short(s), packed[0]>>1&3, kind)
		}
	}
	for _, c := range []struct {
		s    string
		most int
	}{{strings.Repeat("a", api.MaxBytes), 320}, {strings.Repeat("hello ", 500), 40}, {m.words(100000), 30000}} {
		if packed := deflates(t, short(c.s), c.s); len(packed) > c.most {
			t.Errorf("%s: %d bytes, want at most %d", short(c.s), len(packed), c.most)
		}
	}
}

// P2, P4

func TestAnswersAgain(t *testing.T) {
	m := mixer(12)
	for _, x := range m.samples(4000) {
		l := tokensOf(t, x.text)
		first, _ := Dynamic(l)
		fourth, _ := Zip(x.text)
		for range 3 {
			if again, _ := Dynamic(l); again != first {
				t.Errorf("%s: another block", x.name)
			}
			if again, _ := Zip(x.text); again != fourth {
				t.Errorf("%s: another text", x.name)
			}
		}
	}
}

func TestTokensAreOnlyRead(t *testing.T) {
	l := append(bytesAlone("abc"), matchOf(3, 3), matchOf(2, 2), byteOf('x'))
	all := slices.Clone(l)
	fixes(t, "some of a list", l[:4], slowFixed(l[:4:4]))
	packs(t, "some of a list", l[:4])
	if !slices.Equal(l, all) {
		t.Errorf("changed: %v", l)
	}
}
