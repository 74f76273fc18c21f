package lzw

import (
	"bytes"
	"compress/lzw"
	"errors"
	"fmt"
	"io"
	"math"
	"slices"
	"strings"
	"testing"

	"layercake/api"
)

// mixer makes mixed numbers, the same ones at each run.
type mixer uint64

func (m *mixer) below(n int) int {
	*m = *m*6364136223846793005 + 1442695040888963407
	return int(*m>>33) % n
}

func (m *mixer) bytes(n, unlike int) string {
	l := make([]byte, n)
	for i := range l {
		l[i] = byte(m.below(unlike))
	}
	return string(l)
}

// runs of one number, of mixed lengths.
func (m *mixer) runs(n, unlike int) string {
	var b strings.Builder
	for b.Len() < n {
		b.WriteString(strings.Repeat(string([]byte{byte(m.below(unlike))}), 1+m.below(90)))
	}
	return b.String()[:n]
}

type sample struct{ name, text string }

// samples of so many numbers of width bits each, from such as are packed well to such as are not at all.
func (m *mixer) samples(n, width int) []sample {
	all := 1 << width
	return []sample{
		{"lowest", strings.Repeat("\x00", n)},
		{"highest", strings.Repeat(string([]byte{byte(all - 1)}), n)},
		{"by turns", strings.Repeat(string([]byte{0, byte(all - 1)}), n)[:n]},
		{"runs", m.runs(n, all)},
		{"mixed of 2", m.bytes(n, 2)},
		{"mixed", m.bytes(n, all)},
		{"half runs, half mixed", m.runs(n/2, all) + m.bytes(n-n/2, all)},
	}
}

func short(s string) string {
	if len(s) > 60 {
		return fmt.Sprintf("%q.. (%d)", s[:60], len(s))
	}
	return fmt.Sprintf("%q", s)
}

func packed(t *testing.T, s string, width int) string {
	t.Helper()
	p, err := Pack(s, width)
	if err != nil {
		t.Fatalf("Pack(%s, %d): %v", short(s), width, err)
	}
	return p
}

func packs(t *testing.T, s string, width int, want string) {
	t.Helper()
	if p := packed(t, s, width); p != want {
		t.Errorf("Pack(%s, %d): %s, want %s", short(s), width, short(p), short(want))
	}
}

func unpacks(t *testing.T, s string, width, most int, want string, wantUsed int) {
	t.Helper()
	if text, used, err := Unpack(s, width, most); text != want || used != wantUsed || err != nil {
		t.Errorf("Unpack(%s, %d, %d): %s, %d, %v, want %s, %d", short(s), width, most, short(text), used, err, short(want), wantUsed)
	}
}

func unpackFails(t *testing.T, s string, width, most int, want error) {
	t.Helper()
	if text, used, err := Unpack(s, width, most); text != "" || used != 0 || err != want {
		t.Errorf("Unpack(%s, %d, %d): %s, %d, %v, want %v", short(s), width, most, short(text), used, err, want)
	}
}

// P70, P71

func TestPackByHand(t *testing.T) {
	packs(t, "", 2, "\x2c")
	packs(t, "\x01", 2, "\x4c\x01")
	// 4 1 6 6 in 3 bits; then word 8 is there: 2 9 5 in 4.
	packs(t, "\x01\x01\x01\x01\x01\x02\x02\x02", 2, "\x8c\x2d\x59")
	// 256 97 257 in 9 bits.
	packs(t, "a", 8, "\x00\xc3\x04\x04")
	packs(t, "", 8, "\x00\x03\x02")
	// 128 65 129 in 8 bits.
	packs(t, "A", 7, "\x80\x41\x81")
}

func TestPackOfNothing(t *testing.T) {
	for width := 2; width <= 8; width++ {
		packs(t, "", width, textOfTold([]told{{1 << width, width + 1}, {1<<width + 1, width + 1}}))
	}
}

// The last word gets a number too: it is the third one, 8, so END has 4 bits.
func TestLastWordGetsANumber(t *testing.T) {
	packs(t, "\x00\x01", 2, textOfTold([]told{{4, 3}, {0, 3}, {1, 3}, {5, 3}}))
	packs(t, "\x00\x01\x02", 2, textOfTold([]told{{4, 3}, {0, 3}, {1, 3}, {2, 3}, {5, 4}}))
	packs(t, "\x00\x01\x02\x03", 2, textOfTold([]told{{4, 3}, {0, 3}, {1, 3}, {2, 3}, {3, 4}, {5, 4}}))
}

func TestPackIsAsTold(t *testing.T) {
	m := mixer(1)
	for width := 2; width <= 8; width++ {
		for n := range 70 {
			s := m.bytes(n, 1<<width)
			l, _ := slowPack(s, width)
			packs(t, s, width, textOfTold(l))
		}
		for _, n := range []int{500, 5000, 30000} {
			for _, c := range m.samples(n, width) {
				l, _ := slowPack(c.text, width)
				if p := packed(t, c.text, width); p != textOfTold(l) {
					t.Errorf("%d numbers of %d bits, %s: %s", n, width, c.name, short(p))
				}
			}
		}
	}
}

func TestPackOfEveryShortText(t *testing.T) {
	for n := range 8 {
		for i := range 1 << (2 * n) {
			s := make([]byte, n)
			for k := range s {
				s[k] = byte(i >> (2 * k) & 3)
			}
			l, _ := slowPack(string(s), 2)
			packs(t, string(s), 2, textOfTold(l))
			unpacks(t, textOfTold(l), 2, n, string(s), len(textOfTold(l)))
		}
	}
}

// withWords: a text that is told by just so many words.
func withWords(m *mixer, n, width int) string {
	_, words := slowPack(m.bytes(8*n+8, 1<<width), width)
	return strings.Join(words[:n], "")
}

// sizesOf the codes of so many words and END, counted by themselves.
func sizesOf(words, width int) (sizes []int) {
	for k := range words + 1 {
		size := width + 1
		// Words from 2^width + 2 on have numbers ahead of this code, as many as there were codes.
		for k > 0 && 1<<width+1+k >= 1<<size && size < 12 {
			size++
		}
		sizes = append(sizes, size)
	}
	return sizes
}

// Around each number 2^SIZE, told by the last word or by one ahead of it.
func TestCodesGetLonger(t *testing.T) {
	m := mixer(2)
	for width := 2; width <= 8; width++ {
		for size := width + 1; size <= 12; size++ {
			for n := 1<<size - 1<<width - 4; n <= 1<<size-1<<width+2; n++ {
				if n < 1 || 1<<width+1+n > 4095 {
					continue
				}
				s := withWords(&m, n, width)
				p := packed(t, s, width)
				sizes := sizesOf(n, width)
				bits := width + 1
				for _, size := range sizes {
					bits += size
				}
				l, _ := slowPack(s, width)
				if p != textOfTold(l) || len(p) != (bits+7)/8 {
					t.Errorf("%d words of %d bits: %d bytes, want %d bits", n, width, len(p), bits)
				}
				got := toldIn(p, width)
				for i := range got[1:] {
					if i >= len(sizes) || got[i+1].size != sizes[i] {
						t.Fatalf("%d words of %d bits: code %d has %d bits", n, width, i+1, got[i+1].size)
					}
				}
				unpacks(t, p+"\xff", width, len(s), s, len(p))
			}
		}
	}
}

// The word that gets 4095 is followed by CLEAR, but not if it is the last one.
func TestClear(t *testing.T) {
	m := mixer(3)
	for width := 2; width <= 8; width++ {
		clearCode, endCode := 1<<width, 1<<width+1
		round := 4095 - endCode
		for _, c := range []struct{ words, clears int }{
			{round - 1, 1}, {round, 1}, {round + 1, 2}, {round + 2, 2}, {2*round - 1, 2}, {2 * round, 2}, {2*round + 1, 3}, {2*round + 5, 3},
		} {
			s := withWords(&m, c.words, width)
			p := packed(t, s, width)
			l := toldIn(p, width)
			clears := 0
			for i, x := range l {
				if x.code != clearCode {
					continue
				}
				clears++
				if i > 0 && (x.size != 12 || i%(round+1) != 0) {
					t.Errorf("%d words of %d bits: CLEAR at %d in %d bits", c.words, width, i, x.size)
				}
				if l[i+1].size != width+1 {
					t.Errorf("%d words of %d bits: %d bits behind CLEAR", c.words, width, l[i+1].size)
				}
			}
			if clears != c.clears || len(l) != c.words+c.clears+1 || l[len(l)-1].code != endCode {
				t.Errorf("%d words of %d bits: %d codes, CLEAR %d times", c.words, width, len(l), clears)
			}
			want, _ := slowPack(s, width)
			if p != textOfTold(want) || !slices.Equal(l, want) {
				t.Errorf("%d words of %d bits: not as told", c.words, width)
			}
			unpacks(t, p+"more", width, len(s), s, len(p))
		}
	}
}

// libraryPack tells CLEAR also if the last word gets 4095.
func libraryPack(t *testing.T, s string, width int) string {
	t.Helper()
	var b bytes.Buffer
	w := lzw.NewWriter(&b, lzw.LSB, width)
	if _, err := io.WriteString(w, s); err != nil {
		t.Fatal(err)
	}
	if err := w.Close(); err != nil {
		t.Fatal(err)
	}
	return b.String()
}

func libraryUnpack(s string, width int) (string, error) {
	text, err := io.ReadAll(lzw.NewReader(strings.NewReader(s), lzw.LSB, width))
	return string(text), err
}

func TestLibraryAgrees(t *testing.T) {
	m := mixer(4)
	for width := 2; width <= 8; width++ {
		for _, n := range []int{0, 1, 2, 3, 10, 100, 1000, 10000, 100000} {
			for _, c := range m.samples(n, width) {
				p := packed(t, c.text, width)
				if s, err := libraryUnpack(p, width); s != c.text || err != nil {
					t.Errorf("%d numbers of %d bits, %s: read as %s, %v", n, width, c.name, short(s), err)
				}
				theirs := libraryPack(t, c.text, width)
				if p != theirs {
					t.Errorf("%d numbers of %d bits, %s: %d bytes, theirs are %d", n, width, c.name, len(p), len(theirs))
				}
				unpacks(t, theirs, width, n, c.text, len(theirs))
			}
		}
		s := withWords(&m, 4094-1<<width, width)
		theirs := libraryPack(t, s, width)
		unpacks(t, theirs, width, len(s), s, len(theirs))
		if p := packed(t, s, width); p == theirs {
			t.Errorf("%d bits: CLEAR behind the last word", width)
		} else if x, err := libraryUnpack(p, width); x != s || err != nil {
			t.Errorf("%d bits: read as %s, %v", width, short(x), err)
		}
	}
}

func TestPackBounds(t *testing.T) {
	for _, width := range []int{math.MinInt, -8, -1, 0, 1, 9, 10, 63, 64, math.MaxInt} {
		for _, s := range []string{"", "\x00", "\xff", strings.Repeat("\xff", api.MaxBytes+1)} {
			if p, err := Pack(s, width); p != "" || err != api.ErrBound {
				t.Errorf("Pack(%s, %d): %s, %v", short(s), width, short(p), err)
			}
		}
	}
	for width := 2; width <= 8; width++ {
		for _, b := range []string{"\x00", "\xff"} {
			if p, err := Pack(strings.Repeat(b, api.MaxBytes+1), width); p != "" || err != api.ErrBound {
				t.Errorf("%d bits, too many: %s, %v", width, short(p), err)
			}
		}
		s := strings.Repeat("\x03", api.MaxBytes)
		p := packed(t, s, width)
		unpacks(t, p, width, api.MaxBytes, s, len(p))
	}
}

func TestPackShapes(t *testing.T) {
	for width := 2; width < 8; width++ {
		good, all := strings.Repeat(string([]byte{0, byte(1<<width - 1)}), 50), 1<<width
		packed(t, good, width)
		for _, wrong := range []int{all, all + 1, 128, 255} {
			if wrong < all {
				continue
			}
			for _, at := range []int{0, 1, 50, 99, 100} {
				for _, behind := range []string{"", "\x00", "\xff\xff", good} {
					p, err := Pack(good[:at]+string([]byte{byte(wrong)})+behind, width)
					var f *api.Fault
					if p != "" || !errors.As(err, &f) || *f != (api.Fault{At: at, Err: api.ErrShape}) || !errors.Is(err, api.ErrShape) {
						t.Errorf("%d of %d bits at %d: %s, %v", wrong, width, at, short(p), err)
					}
				}
			}
		}
		long := strings.Repeat("\x00", api.MaxBytes-1) + "\xff"
		var f *api.Fault
		if _, err := Pack(long, width); !errors.As(err, &f) || f.At != api.MaxBytes-1 {
			t.Errorf("%d bits, at the end: %v", width, err)
		}
	}
	every := make([]byte, 256)
	for i := range every {
		every[i] = byte(i)
	}
	packed(t, string(every), 8)
}

// P72

func TestUnpackByHand(t *testing.T) {
	unpacks(t, "\x2c", 2, 0, "", 1)
	unpacks(t, "\x4c\x01", 2, 1, "\x01", 2)
	unpacks(t, "\x8c\x2d\x59", 2, 8, "\x01\x01\x01\x01\x01\x02\x02\x02", 3)
	unpacks(t, "\x8c\x2d\x59\x2c\x00", 2, 300000, "\x01\x01\x01\x01\x01\x02\x02\x02", 3)
	// The bits behind END mean nothing.
	unpacks(t, "\xec", 2, 0, "", 1)
	unpacks(t, "\x4c\xff", 2, 1, "\x01", 2)
	unpackFails(t, "\x37", 2, 9, api.ErrText)
	unpackFails(t, "", 2, 9, api.ErrText)
}

// tells a text, by the package and by the slow unpacker, of codes and END.
func tells(t *testing.T, l *teller, want string) {
	t.Helper()
	l.tell(l.endCode())
	s := l.text()
	unpacks(t, s+"\xa5", l.width, len(want), want, len(s))
	if text, used, err := slowUnpack(s, l.width, len(want)); text != want || used != len(s) || err != nil {
		t.Errorf("the slow one: %s, %d, %v", short(text), used, err)
	}
}

// failsAt the last code of a list: without it and with END in its place all is well.
func failsAt(t *testing.T, l *teller) {
	t.Helper()
	unpackFails(t, l.text()+strings.Repeat("\xff", 9), l.width, api.MaxBytes, api.ErrText)
	last := len(l.l) - 1
	l.l[last].code = l.endCode()
	if _, _, err := Unpack(l.text(), l.width, api.MaxBytes); err != nil {
		t.Errorf("%v with END: %v", l.l[max(0, last-10):], err)
	}
}

func TestCodesMayBeAny(t *testing.T) {
	for width := 2; width <= 8; width++ {
		codes := func(l ...int) *teller {
			c := newTeller(width)
			c.tell(l...)
			return c
		}
		clearCode, next := 1<<width, 1<<width+2
		tells(t, codes(), "")
		tells(t, codes(clearCode, clearCode, clearCode), "")
		// CLEAR need not be first, nor a word the longest one.
		tells(t, codes(1), "\x01")
		tells(t, codes(1, 1, 1, 1, 1), "\x01\x01\x01\x01\x01")
		tells(t, codes(1, 2, next, clearCode, 3, 3, next), "\x01\x02\x01\x02\x03\x03\x03\x03")
		tells(t, codes(1, clearCode, clearCode, 2, clearCode), "\x01\x02")
		// The word that comes next, over and over.
		tells(t, codes(2, next, next+1, next+2), strings.Repeat("\x02", 10))
		tells(t, codes(1, 2, next+1, next, next+3), "\x01\x02\x02\x02\x01\x02\x01\x02\x01")
		// Behind CLEAR the list begins anew: its first word has the same code again.
		tells(t, codes(clearCode, 0, 1, next, clearCode, 1, 0, next), "\x00\x01\x00\x01\x01\x00\x01\x00")
	}
}

func TestWrongCodes(t *testing.T) {
	for width := 2; width <= 8; width++ {
		clearCode, next := 1<<width, 1<<width+2
		for _, ahead := range [][]int{{}, {clearCode}, {clearCode, clearCode}, {1, clearCode}, {1, 2, next, clearCode}} {
			for code := next; code < 2<<width; code++ {
				l := newTeller(width)
				l.tell(append(slices.Clone(ahead), code)...)
				failsAt(t, l)
			}
		}
		for _, ahead := range [][]int{{1}, {clearCode, 1}, {1, 2}, {1, 1, next, next + 1}, {clearCode, 1, 2, 3, clearCode, 3}} {
			l := newTeller(width)
			l.tell(ahead...)
			beyond := l.next() + 1
			if beyond >= 1<<l.size {
				continue
			}
			l.tell(beyond)
			failsAt(t, l)
		}
	}
}

// At each length of the list: the word that comes next is there, the one behind it is not.
func TestCodeThatComesNext(t *testing.T) {
	for _, width := range []int{2, 5, 8} {
		for words := 1; words <= 4096-1<<width; words++ {
			if words > 40 && words%97 != 0 && words < 4060-1<<width {
				continue
			}
			l := newTeller(width)
			for range words {
				l.tell(3)
			}
			if next := l.next(); next < 1<<l.size {
				l.tell(next)
				tells(t, l, strings.Repeat("\x03", words+2))
			}
			l = newTeller(width)
			for range words {
				l.tell(3)
			}
			if beyond := l.next() + 1; beyond < 1<<l.size {
				l.tell(beyond)
				failsAt(t, l)
			}
		}
	}
}

// With 4096 codes the list stays, at 12 bits, up to CLEAR.
func TestFullListStays(t *testing.T) {
	for width := 2; width <= 8; width++ {
		for _, more := range []int{0, 1, 2, 100, 5000} {
			l := newTeller(width)
			l.tell(l.clearCode())
			var want strings.Builder
			first := l.endCode() + 1
			for i := range 4096 - first + 1 {
				l.tell(i % 3)
				want.WriteByte(byte(i % 3))
			}
			if l.next() != 4096 || l.size != 12 {
				t.Fatalf("%d bits: %d codes, %d bits", width, l.next(), l.size)
			}
			for i := range more {
				l.tell(2, 4095, 4094)
				// Word n is that of the codes n - first and one more.
				for _, k := range []int{4095 - first, 4094 - first} {
					if k == 4095-first {
						want.WriteByte(2)
					}
					want.Write([]byte{byte(k % 3), byte((k + 1) % 3)})
				}
				if i%1000 == 999 {
					l.tell(l.clearCode(), 1, 1, first)
					want.WriteString("\x01\x01\x01\x01")
					break
				}
			}
			tells(t, l, want.String())
		}
	}
}

// The code 4095 as the word that comes next, and then as one that stays.
func TestLastCodeOfTheList(t *testing.T) {
	for width := 2; width <= 8; width++ {
		l := newTeller(width)
		ahead := 4096 - (1<<width + 2)
		for range ahead {
			l.tell(1)
		}
		if l.next() != 4095 {
			t.Fatalf("%d bits: %d comes next", width, l.next())
		}
		l.tell(4095, 2, 4095, 3, 4095)
		tells(t, l, strings.Repeat("\x01", ahead+2)+"\x02\x01\x01\x03\x01\x01")
	}
}

func TestUnpackMost(t *testing.T) {
	m := mixer(5)
	for width := 2; width <= 8; width++ {
		for _, c := range m.samples(3000, width) {
			p := packed(t, c.text, width)
			unpacks(t, p, width, 3000, c.text, len(p))
			unpacks(t, p, width, 3001, c.text, len(p))
			unpacks(t, p, width, api.MaxBytes, c.text, len(p))
			for _, most := range []int{0, 1, 2, 100, 2990, 2999} {
				unpackFails(t, p, width, most, api.ErrBound)
			}
		}
	}
	// A word is there whole or not at all.
	l := newTeller(2)
	l.tell(1, 6, 7, 8, 5)
	for most := range 10 {
		unpackFails(t, l.text(), 2, most, api.ErrBound)
	}
	unpacks(t, l.text(), 2, 10, strings.Repeat("\x01", 10), 3)
}

// As it comes: a code that cannot be ahead of too many bytes, or behind them; and of one code ErrText.
func TestUnpackErrorsAsTheyCome(t *testing.T) {
	for _, c := range []struct {
		codes []int
		most  int
		want  error
	}{
		{[]int{7}, 0, api.ErrText},
		{[]int{1, 7}, 1, api.ErrText},
		{[]int{1, 7}, 0, api.ErrBound},
		{[]int{1, 1, 4, 6}, 2, api.ErrText},
		{[]int{1, 1, 4, 6}, 1, api.ErrBound},
		{[]int{1, 6, 7}, 3, api.ErrBound},
		{[]int{1, 6}, 1, api.ErrBound},
		// Bits end; those up to a whole byte are a number 0 more.
		{[]int{1, 6, 7}, 7, api.ErrText},
		{[]int{1, 6, 7}, 6, api.ErrBound},
		{[]int{4}, 1, api.ErrText},
		{[]int{4}, 0, api.ErrBound},
		{nil, 0, api.ErrText},
	} {
		l := newTeller(2)
		l.tell(c.codes...)
		unpackFails(t, l.text(), 2, c.most, c.want)
		if _, _, err := slowUnpack(l.text(), 2, c.most); err != c.want {
			t.Errorf("the slow one: %v, %d: %v", c.codes, c.most, err)
		}
	}
}

func TestBitsEnd(t *testing.T) {
	m := mixer(6)
	for width := 2; width <= 8; width++ {
		s := m.runs(600, 1<<width)
		p := packed(t, s, width)
		for n := range len(p) {
			unpackFails(t, p[:n], width, 600, api.ErrText)
		}
	}
	// END but for its last bit.
	unpackFails(t, "\x00\x03", 8, 0, api.ErrText)
	unpackFails(t, "\x4c", 2, 1, api.ErrText)
}

func TestUnpackBounds(t *testing.T) {
	for _, s := range []string{"", "\x2c", "\xff", strings.Repeat("\x00", api.MaxBytes+1)} {
		for _, width := range []int{math.MinInt, -1, 0, 1, 9, 12, 64, math.MaxInt} {
			unpackFails(t, s, width, 10, api.ErrBound)
			unpackFails(t, s, width, -1, api.ErrBound)
		}
		for _, most := range []int{math.MinInt, -1, api.MaxBytes + 1, math.MaxInt} {
			for width := 2; width <= 8; width++ {
				unpackFails(t, s, width, most, api.ErrBound)
			}
		}
	}
	for width := 2; width <= 8; width++ {
		p := packed(t, "\x01\x02\x03", width)
		all := p + strings.Repeat("\x00", api.MaxBytes-len(p))
		unpacks(t, all, width, 3, "\x01\x02\x03", len(p))
		unpackFails(t, all+"\x00", width, 3, api.ErrBound)
	}
}

// same answers of the package and of the slow unpacker.
func same(t *testing.T, s string, width, most int) error {
	t.Helper()
	want, wantUsed, wantErr := slowUnpack(s, width, most)
	text, used, err := Unpack(s, width, most)
	if text != want || used != wantUsed || err != wantErr {
		t.Errorf("Unpack(%s, %d, %d): %s, %d, %v, want %s, %d, %v", short(s), width, most, short(text), used, err, short(want), wantUsed, wantErr)
	}
	return err
}

func TestUnpackOfAnything(t *testing.T) {
	m := mixer(7)
	got := map[error]int{}
	for width := 2; width <= 8; width++ {
		for range 2000 {
			s, most := m.bytes(m.below(40), 256), m.below(30)
			got[same(t, s, width, most)]++
		}
		for _, c := range m.samples(6000, width) {
			p := []byte(packed(t, c.text, width))
			for range 10 {
				wrong := slices.Clone(p)
				wrong[m.below(len(wrong))] ^= 1 << m.below(8)
				got[same(t, string(wrong), width, 5000+m.below(8000))]++
			}
		}
	}
	for _, err := range []error{nil, api.ErrText, api.ErrBound} {
		if got[err] < 100 {
			t.Errorf("%v: %d times", err, got[err])
		}
	}
}

// Codes that mean something, with CLEAR among them, up to lists that are full.
func TestUnpackOfMixedCodes(t *testing.T) {
	m := mixer(8)
	for width := 2; width <= 8; width++ {
		for _, clears := range []int{5, 50, 500, 1 << 30} {
			for _, n := range []int{20, 400, 9000} {
				l := newTeller(width)
				for range n {
					code := m.below(min(l.next()+1, 1<<l.size))
					switch {
					case m.below(clears) == 0:
						code = l.clearCode()
					case code == l.clearCode() || code == l.endCode() || l.words == 0 || m.below(3) > 0:
						code = m.below(1 << width)
					}
					l.tell(code)
				}
				l.tell(l.endCode())
				if err := same(t, l.text(), width, api.MaxBytes); err != nil {
					t.Errorf("%d codes of %d bits: %v", n, width, err)
				}
			}
		}
	}
}

// Texts that could take long: CLEAR alone, and words that grow and grow.
func TestUnpackEndsSoon(t *testing.T) {
	for width := 2; width <= 8; width++ {
		l := newTeller(width)
		for range 8 {
			l.tell(l.clearCode())
		}
		s := strings.Repeat(l.text(), api.MaxBytes/len(l.text()))
		unpackFails(t, s, width, api.MaxBytes, api.ErrText)
		all := strings.Repeat("\x03", api.MaxBytes)
		p := packed(t, all, width)
		unpackFails(t, p, width, api.MaxBytes-1, api.ErrBound)
	}
}

// P73

func TestBlocks(t *testing.T) {
	m := mixer(9)
	for _, n := range []int{0, 1, 2, 254, 255, 256, 509, 510, 511, 765, 1000, api.MaxBytes, api.MaxBytes + 300} {
		s := m.bytes(n, 256)
		want, left := "", s
		for len(left) >= 255 {
			want += "\xff" + left[:255]
			left = left[255:]
		}
		if left != "" {
			want += string([]byte{byte(len(left))}) + left
		}
		want += "\x00"
		b := Blocks(s)
		if b != want {
			t.Errorf("%d bytes: %s, want %s", n, short(b), short(want))
		}
		for _, behind := range []string{"", "\x00", "\x01", "\xffabc"} {
			if x, used, err := Join(b + behind); x != s || used != len(b) || err != nil {
				t.Errorf("%d bytes and %q: %s, %d, %v", n, behind, short(x), used, err)
			}
		}
	}
}

// Parts may be of any lengths.
func TestJoin(t *testing.T) {
	for _, c := range []struct {
		s, want string
		used    int
	}{
		{"\x00", "", 1},
		{"\x00\x00", "", 1},
		{"\x01a\x00", "a", 3},
		{"\x01a\x01b\x02cd\x00rest", "abcd", 8},
		{"\x02\x00\x00\x00\x00", "\x00\x00", 4},
		{"\x01\x00\xff" + strings.Repeat("x", 255) + "\x03\x01\x02\x03\x00\x09", "\x00" + strings.Repeat("x", 255) + "\x01\x02\x03", 263},
	} {
		if x, used, err := Join(c.s); x != c.want || used != c.used || err != nil {
			t.Errorf("Join(%s): %s, %d, %v", short(c.s), short(x), used, err)
		}
	}
}

func TestJoinOfWhatEnds(t *testing.T) {
	b := Blocks(strings.Repeat("y", 300)) + "\x05"
	for n := range len(b) - 2 {
		if x, used, err := Join(b[:n]); x != "" || used != 0 || err != api.ErrText {
			t.Errorf("%d bytes: %s, %d, %v", n, short(x), used, err)
		}
	}
	for _, s := range []string{"", "\x01", "\x01a", "\x02a", "\x02a\x00", "\xff", "\x01\x00", "\x01a\x01b\x03cd\x00"} {
		if x, used, err := Join(s); x != "" || used != 0 || err != api.ErrText {
			t.Errorf("%q: %q, %d, %v", s, x, used, err)
		}
	}
}

// P74

func TestPackedIsUnpacked(t *testing.T) {
	m := mixer(10)
	for width := 2; width <= 8; width++ {
		for _, n := range []int{0, 1, 2, 3, 4, 5, 17, 255, 4096, 60000, 200000} {
			for _, c := range m.samples(n, width) {
				p := packed(t, c.text, width)
				unpacks(t, p, width, n, c.text, len(p))
				unpacks(t, p+p[:100%len(p)], width, api.MaxBytes, c.text, len(p))
				joined, used, err := Join(Blocks(p))
				if joined != p || used != len(p)+(len(p)+254)/255+1 || err != nil {
					t.Errorf("%d numbers of %d bits, %s, in blocks: %d, %v", n, width, c.name, used, err)
				}
			}
		}
		for range 300 {
			s := m.bytes(m.below(400), 1+m.below(1<<width))
			p := packed(t, s, width)
			unpacks(t, p, width, len(s), s, len(p))
		}
	}
}

// Packed as told, though it has more bytes than are taken back.
func TestPackedGetsTooLong(t *testing.T) {
	m := mixer(11)
	s := m.bytes(api.MaxBytes, 256)
	p := packed(t, s, 8)
	if len(p) <= api.MaxBytes {
		t.Fatal(len(p))
	}
	if x, err := libraryUnpack(p, 8); x != s || err != nil {
		t.Errorf("%s, %v", short(x), err)
	}
	unpackFails(t, p, 8, api.MaxBytes, api.ErrBound)
}

// P2
func TestCallsAreApart(t *testing.T) {
	m := mixer(12)
	s := m.bytes(9000, 16)
	p := packed(t, s, 4)
	for range 3 {
		packed(t, m.runs(5000, 4), 4)
		unpackFails(t, p[:100], 4, api.MaxBytes, api.ErrText)
		packs(t, s, 4, p)
		unpacks(t, p, 4, 9000, s, len(p))
	}
}
