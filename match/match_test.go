package match

import (
	"errors"
	"fmt"
	"math"
	"slices"
	"strings"
	"testing"

	"layercake/api"
)

// mixer makes mixed numbers, the same ones at each run.
type mixer uint64

func (m *mixer) below(n int) int {
	*m = *m*6364136223846793005 + 1442695040888963407
	return int(*m>>33) % n
}

func (m *mixer) bytes(n, unlike int) string {
	l := make([]byte, n)
	for i := range l {
		l[i] = byte(m.below(unlike))
	}
	return string(l)
}

// runs of one byte, of mixed lengths, with another byte between: nearly all places begin with the same three bytes.
func (m *mixer) runs(n, longest int) string {
	var b strings.Builder
	for b.Len() < n {
		b.WriteString(strings.Repeat("a", 1+m.below(longest)) + "b")
	}
	return b.String()[:n]
}

// copies of pieces of what is there already, with some bytes between.
func (m *mixer) copies(n, unlike int) string {
	l := []byte(m.bytes(8, unlike))
	for len(l) < n {
		behind := 1 + m.below(len(l))
		for range m.below(40) {
			l = append(l, l[len(l)-behind])
		}
		l = append(l, m.bytes(m.below(3), unlike)...)
	}
	return string(l[:n])
}

type sample struct{ name, text string }

// samples of so many bytes each, from such as are all one match to such as have none.
func (m *mixer) samples(n int) []sample {
	list := []sample{
		{"one byte", strings.Repeat("a", n)},
		{"two bytes", strings.Repeat("ab", n)[:n]},
		{"words", strings.Repeat("layer cake ", n)[:n]},
		{"runs", m.runs(n, 60)},
		{"long runs", m.runs(n, 400)},
	}
	for _, unlike := range []int{2, 3, 4, 16, 256} {
		list = append(list, sample{fmt.Sprint("mixed of ", unlike), m.bytes(n, unlike)})
		list = append(list, sample{fmt.Sprint("copies of ", unlike), m.copies(n, unlike)})
	}
	return list
}

func byteOf(b uint8) api.Token { return api.Token{Byte: b} }

func matchOf(length, behind int) api.Token { return api.Token{Length: length, Behind: behind} }

func bytesAlone(s string) []api.Token {
	var l []api.Token
	for i := range len(s) {
		l = append(l, byteOf(s[i]))
	}
	return l
}

func short(s string) string {
	if len(s) > 60 {
		return fmt.Sprintf("%q.. (%d)", s[:60], len(s))
	}
	return fmt.Sprintf("%q", s)
}

// P50

func expands(t *testing.T, l []api.Token, want string) {
	t.Helper()
	if s, err := Expand(l); s != want || err != nil {
		t.Errorf("%d tokens: %s, %v, want %s", len(l), short(s), err, short(want))
	}
}

func expandFails(t *testing.T, l []api.Token, at int, want error) {
	t.Helper()
	s, err := Expand(l)
	var f *api.Fault
	if s != "" || !errors.As(err, &f) || f.At != at || f.Err != want {
		t.Errorf("%d tokens: %s, %v, want %v at %d", len(l), short(s), err, want, at)
	}
	if f != nil && f.Err == want && !errors.Is(err, want) {
		t.Errorf("%v does not wrap %v", err, want)
	}
}

func TestExpand(t *testing.T) {
	expands(t, nil, "")
	expands(t, []api.Token{}, "")
	expands(t, []api.Token{byteOf('a'), matchOf(5, 1)}, "aaaaaa")
	expands(t, []api.Token{byteOf('a'), byteOf('b'), matchOf(5, 2), matchOf(3, 7)}, "abababaaba")
	expands(t, []api.Token{byteOf('x'), byteOf('a'), byteOf('b'), byteOf('c'), matchOf(3, 3), matchOf(4, 7)}, "xabcabcxabc")
	every := make([]byte, 256)
	for i := range every {
		every[i] = byte(i)
	}
	expands(t, bytesAlone(string(every)), string(every))
	// Of bytes that are no runes of their own.
	expands(t, []api.Token{byteOf(0xff), byteOf(0xc3), byteOf(0), matchOf(3, 3)}, "\xff\xc3\x00\xff\xc3\x00")
}

func TestExpandEdges(t *testing.T) {
	for _, length := range []int{3, 4, 257, 258} {
		expands(t, []api.Token{byteOf('a'), matchOf(length, 1)}, strings.Repeat("a", 1+length))
	}
	m := mixer(1)
	ahead := m.bytes(40000, 256)
	for _, behind := range []int{1, 2, 3, 32767, 32768} {
		at := len(ahead) - behind
		expands(t, append(bytesAlone(ahead), matchOf(3, behind)), ahead+strings.Repeat(ahead[at:], 3)[:3])
	}
	for _, n := range []int{1, 2, 3, 100, 32768} {
		expands(t, append(bytesAlone(ahead[:n]), matchOf(258, n)), ahead[:n]+strings.Repeat(ahead[:n], 258)[:258])
	}
}

// Wrong tokens, at each place of a list, with good ones and wrong ones behind them.
func TestExpandShapes(t *testing.T) {
	ahead := append(bytesAlone("abcd"), slices.Repeat([]api.Token{matchOf(258, 4)}, 130)...)
	for _, wrong := range []api.Token{
		matchOf(1, 1), matchOf(2, 1), matchOf(259, 1), matchOf(-1, 1), matchOf(-3, 1), matchOf(math.MaxInt, 1), matchOf(math.MinInt, 1),
		matchOf(3, 0), matchOf(3, -1), matchOf(3, 32769), matchOf(3, math.MaxInt), matchOf(3, math.MinInt),
		matchOf(0, 1), matchOf(0, -1), matchOf(0, math.MaxInt), {Byte: 'a', Behind: 1},
		{Byte: 1, Length: 3, Behind: 1}, {Byte: 255, Length: 258, Behind: 4}, {Byte: 'a', Length: 3}, {Byte: 'a', Length: -1},
	} {
		for _, at := range []int{0, 1, 4, 60, len(ahead)} {
			expandFails(t, append(slices.Clone(ahead[:at]), wrong), at, api.ErrShape)
			expandFails(t, append(slices.Clone(ahead[:at]), wrong, byteOf('z'), matchOf(3, 1), matchOf(2, 2)), at, api.ErrShape)
		}
	}
}

func TestExpandAheadOfTheBeginning(t *testing.T) {
	for _, n := range []int{0, 1, 2, 5, 258, 32767} {
		expandFails(t, append(bytesAlone(strings.Repeat("x", n)), matchOf(3, n+1)), n, api.ErrShape)
	}
	// Bytes count, not tokens.
	l := []api.Token{byteOf('a'), matchOf(4, 1), matchOf(3, 5)}
	expands(t, l, "aaaaaaaa")
	expandFails(t, append(l, matchOf(3, 9)), 3, api.ErrShape)
	expandFails(t, []api.Token{matchOf(3, 1), byteOf('a')}, 0, api.ErrShape)
}

// full: tokens that mean as many bytes as there may be.
func full() []api.Token {
	l := append([]api.Token{byteOf('a')}, slices.Repeat([]api.Token{matchOf(258, 1)}, 1162)...)
	return append(l, matchOf(203, 1))
}

func TestExpandBound(t *testing.T) {
	all := strings.Repeat("a", api.MaxBytes)
	expands(t, full(), all)
	expands(t, bytesAlone(all), all)
	last := len(full())
	for _, more := range []api.Token{byteOf('b'), matchOf(3, 1), matchOf(258, 32768)} {
		expandFails(t, append(full(), more), last, api.ErrBound)
		expandFails(t, append(full(), more, byteOf('c'), matchOf(3, 1)), last, api.ErrBound)
	}
	expandFails(t, append(full()[:last-1], matchOf(204, 1)), last-1, api.ErrBound)
	expandFails(t, append(full()[:last-1], matchOf(258, 1), byteOf('b')), last-1, api.ErrBound)
	expandFails(t, bytesAlone(all+"a"), api.MaxBytes, api.ErrBound)
	expandFails(t, slices.Repeat([]api.Token{byteOf(0)}, 1<<20), api.MaxBytes, api.ErrBound)
}

// P3: of two errors the one that is named first is told, though it stands behind the other.
func TestExpandShapeAheadOfBound(t *testing.T) {
	l := append(full(), byteOf('b'), matchOf(258, 1))
	expandFails(t, append(l, matchOf(2, 1)), len(l), api.ErrShape)
	expandFails(t, append(l, byteOf('c'), matchOf(3, 32769), matchOf(3, 0)), len(l)+1, api.ErrShape)
}

func TestExpandOnlyReads(t *testing.T) {
	l := append(bytesAlone("abc"), matchOf(3, 3), matchOf(2, 2))
	all := slices.Clone(l)
	expands(t, l[:4], "abcabc")
	if !slices.Equal(l, all) {
		t.Errorf("changed: %v", l)
	}
}

// P51, P53

// means: the tokens of s mean s, are tokens, and reach no further back than the window.
func means(t *testing.T, name, s string, window int) []api.Token {
	t.Helper()
	l, err := Tokens(s, window)
	if err != nil {
		t.Errorf("%s, window %d: %v", name, window, err)
		return nil
	}
	if got, err := Expand(l); got != s || err != nil {
		t.Errorf("%s, window %d: %s, %v, want %s", name, window, short(got), err, short(s))
	}
	for i, x := range l {
		if x.Length > 0 && (x.Byte != 0 || x.Length < 3 || x.Length > 258 || x.Behind < 1 || x.Behind > window) || x.Length <= 0 && (x.Length != 0 || x.Behind != 0) {
			t.Errorf("%s, window %d: token %d is %v", name, window, i, x)
			break
		}
	}
	return l
}

func TestTokensMeanTheText(t *testing.T) {
	m := mixer(2)
	for n := range 40 {
		for _, x := range m.samples(n) {
			for _, window := range []int{1, 2, 3, 5, 38, 39, 32768} {
				means(t, fmt.Sprint(x.name, ", ", n), x.text, window)
			}
		}
	}
	for _, n := range []int{3000, 3001, 70000} {
		for _, x := range m.samples(n) {
			for _, window := range []int{1, 3, 257, 2999, 32767, 32768} {
				means(t, fmt.Sprint(x.name, ", ", n), x.text, window)
			}
		}
	}
}

func TestTokensOfTheLongestTexts(t *testing.T) {
	m := mixer(3)
	for _, x := range m.samples(api.MaxBytes) {
		for _, window := range []int{1, 32768} {
			means(t, x.name, x.text, window)
		}
	}
}

func TestTokensWindow(t *testing.T) {
	m := mixer(4)
	for _, far := range []int{300, 3000, 32767, 32768} {
		s := m.bytes(far, 256)
		s += s[:200]
		whole := len(means(t, "as far as the window", s, far))
		cut := len(means(t, "one further than the window", s, far-1))
		if whole+150 > cut {
			t.Errorf("%d: %d tokens with the window, %d with one less", far, whole, cut)
		}
	}
	// One match: 5 bytes at their distance from where they stood.
	s := "abcde" + "01234567" + "abcde"
	for window := 1; window <= 20; window++ {
		want := 18
		if window >= 13 {
			want = 14
		}
		if l := means(t, "5 bytes", s, window); len(l) != want {
			t.Errorf("window %d: %d tokens, want %d", window, len(l), want)
		}
	}
}

func TestTokensBounds(t *testing.T) {
	all := strings.Repeat("a", api.MaxBytes)
	for _, c := range []struct {
		s      string
		window int
	}{
		{"", 0}, {"", -1}, {"", 32769}, {"abcabc", 0}, {"abcabc", math.MinInt}, {"abcabc", math.MaxInt},
		{all + "a", 1}, {all + "a", 32768}, {all + "a", 0},
	} {
		if l, err := Tokens(c.s, c.window); len(l) != 0 || err != api.ErrBound {
			t.Errorf("%s, window %d: %d tokens, %v", short(c.s), c.window, len(l), err)
		}
	}
	if l := means(t, "nothing", "", 1); len(l) != 0 {
		t.Errorf("nothing: %v", l)
	}
}

func TestTokensAreNew(t *testing.T) {
	s := "abcabcabc"
	first := means(t, "first", s, 32768)
	want := slices.Clone(first)
	first[0], first[1] = matchOf(7, 7), matchOf(8, 8)
	if second := means(t, "second", s, 32768); !slices.Equal(second, want) {
		t.Errorf("%v, want %v", second, want)
	}
}

// P52

// slowFewest tries each length of each match at each place, straight from what a match is.
func slowFewest(s string, window int) int {
	least := make([]int, len(s)+1)
	for at := len(s) - 1; at >= 0; at-- {
		least[at] = 1 + least[at+1]
		for behind := 1; behind <= window && behind <= at; behind++ {
			for n := 0; n < 258 && at+n < len(s) && s[at+n] == s[at+n-behind]; n++ {
				if n+1 >= 3 {
					least[at] = min(least[at], 1+least[at+n+1])
				}
			}
		}
	}
	return least[0]
}

// reaches: some list of so many tokens, behind those of l, means s; all there are are tried.
func reaches(s string, window, count int, l []api.Token) bool {
	got, err := Expand(l)
	if err != nil || !strings.HasPrefix(s, got) {
		return false
	}
	if got == s || count == 0 {
		return got == s
	}
	next := []api.Token{byteOf(s[len(got)])}
	for length := 3; length <= len(s); length++ {
		for behind := 1; behind <= window; behind++ {
			next = append(next, matchOf(length, behind))
		}
	}
	for _, x := range next {
		if reaches(s, window, count-1, append(slices.Clone(l), x)) {
			return true
		}
	}
	return false
}

func fewest(t *testing.T, name, s string, window int) int {
	t.Helper()
	n, err := Fewest(s, window)
	if err != nil {
		t.Errorf("%s, window %d: %v", name, window, err)
	}
	return n
}

// enough: Tokens tells no fewer than there are at least, and no more than P52 lets it.
func enough(t *testing.T, name, s string, window int) {
	t.Helper()
	n := fewest(t, name, s, window)
	if l := means(t, name, s, window); len(l) < n || len(l) > 2*n+1 {
		t.Errorf("%s, window %d: %d tokens, at least %d", name, window, len(l), n)
	}
}

func TestFewestExamples(t *testing.T) {
	for _, c := range []struct {
		s            string
		window, want int
	}{
		{"", 32768, 0}, {"a", 32768, 1}, {"aa", 32768, 2}, {"aaa", 32768, 3}, {"aaaa", 32768, 2}, {"aaaa", 1, 2},
		{"abc", 32768, 3}, {"abcab", 32768, 5}, {"abcabc", 32768, 4}, {"abcabc", 3, 4}, {"abcabc", 2, 6}, {"abcabcabc", 32768, 4},
		{"abcdabcXbcdab", 32768, 7},
		{strings.Repeat("a", 259), 1, 2}, {strings.Repeat("a", 260), 1, 3}, {strings.Repeat("a", 261), 1, 3}, {strings.Repeat("a", 517), 1, 3}, {strings.Repeat("a", 518), 1, 4},
		{strings.Repeat("a", 1000), 32768, 5}, {strings.Repeat("a", 3000), 32768, 13},
		{strings.Repeat("ab", 1500), 2, 14}, {strings.Repeat("ab", 1500), 1, 3000},
		{"abcd" + strings.Repeat("x", 10) + "abcd", 9, 10}, {"abcd" + strings.Repeat("x", 10) + "abcd", 14, 7},
		// The longest match each time is not the best: a byte ahead lets a longer one begin.
		{"abcd" + "X" + "bcdef" + "Y" + "abcdef", 32768, 11},
	} {
		if n := fewest(t, short(c.s), c.s, c.window); n != c.want {
			t.Errorf("%s, window %d: %d, want %d", short(c.s), c.window, n, c.want)
		}
		enough(t, short(c.s), c.s, c.window)
	}
}

func TestFewestOfAllShortTexts(t *testing.T) {
	for n := range 8 {
		for number := range 1 << n {
			s := fmt.Sprintf("%0*b", n, number)[:n]
			for _, window := range []int{1, 2, 4, 7} {
				got := fewest(t, s, s, window)
				if !reaches(s, window, got, nil) || got > 0 && reaches(s, window, got-1, nil) {
					t.Errorf("%q, window %d: %d", s, window, got)
				}
			}
		}
	}
}

func TestFewestOfMixedTexts(t *testing.T) {
	m := mixer(5)
	for _, n := range []int{5, 13, 30, 31, 31, 100, 100, 300, 300, 600} {
		for _, x := range m.samples(n) {
			for _, window := range []int{1, 2, 1 + m.below(n), 1 + m.below(n), n - 1, 32768} {
				if got, want := fewest(t, x.name, x.text, window), slowFewest(x.text, window); got != want {
					t.Errorf("%s, %s, window %d: %d, want %d", x.name, short(x.text), window, got, want)
				}
				enough(t, x.name, x.text, window)
			}
		}
	}
}

func TestFewestOfLongTexts(t *testing.T) {
	m := mixer(6)
	for _, x := range m.samples(3000) {
		for _, window := range []int{1, 300, 2999, 32768} {
			enough(t, x.name, x.text, window)
		}
		if got, want := fewest(t, x.name, x.text, 32768), slowFewest(x.text, 32768); got != want {
			t.Errorf("%s: %d, want %d", x.name, got, want)
		}
	}
}

// A text three times, of runs: each match is at one of about a thousand places that begin likewise, and only at that one it is long.
func TestTokensFindFarMatches(t *testing.T) {
	m := mixer(7)
	for _, longest := range []int{30, 60, 100} {
		piece := m.runs(1000, longest)
		s := strings.Repeat(piece, 3)
		enough(t, fmt.Sprint("runs of up to ", longest), s, 32768)
		n := len(means(t, "a piece", piece, 32768))
		if all := len(means(t, "the piece three times", s, 32768)); all > n+12 {
			t.Errorf("runs of up to %d: %d tokens once, %d three times", longest, n, all)
		}
	}
}

// Texts of pieces of which each match leaves 1 or 2 bytes of the one that would have been better.
func TestTokensWhereTheLongestIsNotTheBest(t *testing.T) {
	var pieces, text strings.Builder
	for i := range 40 {
		l := []byte{byte(6 * i), byte(6*i + 1), byte(6*i + 2), byte(6*i + 3), byte(6*i + 4), byte(6*i + 5)}
		pieces.Write(append(append(slices.Clone(l[:4]), 255), l[1:5+i%2]...))
		text.Write(l[:5+i%2])
	}
	s := pieces.String() + text.String()
	enough(t, "once", s, 32768)
	if n, all := fewest(t, "once", s, 32768), len(means(t, "once", s, 32768)); n == all {
		t.Errorf("%d tokens are the fewest: the text does not try what it should", n)
	}
	enough(t, "from the end", s+s[len(pieces.String()):], 32768)
}

func TestFewestBounds(t *testing.T) {
	all := strings.Repeat("a", 3000)
	for _, c := range []struct {
		s      string
		window int
	}{
		{"", 0}, {"", -1}, {"", 32769}, {"abc", math.MinInt}, {"abc", math.MaxInt},
		{all + "a", 1}, {all + "a", 32768}, {all + "a", 0}, {strings.Repeat(all, 101), 1},
	} {
		if n, err := Fewest(c.s, c.window); n != 0 || err != api.ErrBound {
			t.Errorf("%s, window %d: %d, %v", short(c.s), c.window, n, err)
		}
	}
	if n, err := Fewest(all, 1); n != 13 || err != nil {
		t.Errorf("of 3000 bytes: %d, %v", n, err)
	}
}

// P2

func TestAnswersAgain(t *testing.T) {
	m := mixer(8)
	for _, x := range m.samples(5000) {
		first, _ := Tokens(x.text, 4000)
		for range 3 {
			if again, _ := Tokens(x.text, 4000); !slices.Equal(again, first) {
				t.Errorf("%s: other tokens", x.name)
			}
		}
	}
}
