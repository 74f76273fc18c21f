package huff

import (
	"container/heap"
	"fmt"
	"math"
	"slices"
	"sort"
	"strings"
	"testing"

	"layercake/api"
	"layercake/bits"
)

// mixer makes mixed numbers, the same ones at each run.
type mixer uint64

func (m *mixer) below(n int) int {
	*m = *m*6364136223846793005 + 1442695040888963407
	return int(*m>>33) % n
}

// splits: right lengths of n words, of at most most bits, made by splitting words; with symbols without a word between, and in a mixed order.
func (m *mixer) splits(n, most, idle int) []int {
	l := []int{0}
	for len(l) < n {
		i := m.below(len(l))
		if l[i] < most {
			l[i]++
			l = append(l, l[i])
		}
	}
	if n == 1 {
		l[0] = 1
	}
	l = append(l, make([]int, idle)...)
	for i := range l {
		k := i + m.below(len(l)-i)
		l[i], l[k] = l[k], l[i]
	}
	return l
}

// counts: n of them, some 0, with great and small ones.
func (m *mixer) counts(n int) []int {
	l := make([]int, n)
	for i := range l {
		switch m.below(4) {
		case 0:
			l[i] = m.below(3)
		case 1:
			l[i] = m.below(30)
		case 2:
			l[i] = 1 << m.below(21)
		default:
			l[i] = m.below(1<<20 + 1)
		}
	}
	return l
}

func many(n, length int) []int { return slices.Repeat([]int{length}, n) }

// chain: lengths 1, 2, .. up to last, and last again.
func chain(last int) []int {
	var l []int
	for n := range last {
		l = append(l, n+1)
	}
	return append(l, last)
}

// P30

func TestRightLengths(t *testing.T) {
	for _, l := range [][]int{
		nil, {}, {0}, make([]int, 300),
		{1}, {0, 1}, {1, 0, 0}, append(make([]int, 299), 1),
		{1, 1}, {2, 1, 3, 3}, {0, 2, 0, 1, 3, 3, 0}, {3, 3, 3, 3, 3, 2, 4, 4},
		many(4, 2), many(256, 8), chain(2), chain(15),
		append(many(128, 8), many(2, 2)...),
		append(many(212, 8), many(88, 9)...),
	} {
		if err := Valid(l); err != nil {
			t.Errorf("%v: %v", l, err)
		}
	}
	m := mixer(1)
	for range 300 {
		l := m.splits(1+m.below(200), 15, m.below(100))
		if err := Valid(l); err != nil {
			t.Errorf("%v: %v", l, err)
		}
	}
}

func wrongLengths() []struct {
	l    []int
	want error
} {
	return []struct {
		l    []int
		want error
	}{
		{make([]int, 301), api.ErrBound},
		{append(many(256, 8), make([]int, 45)...), api.ErrBound},
		{[]int{16}, api.ErrBound},
		{[]int{1, 16}, api.ErrBound},
		{[]int{1, 1, 16}, api.ErrBound},
		{[]int{-1}, api.ErrBound},
		{[]int{1, 1, -1}, api.ErrBound},
		{[]int{math.MinInt}, api.ErrBound},
		{[]int{math.MaxInt, 1}, api.ErrBound},
		{[]int{64, 65}, api.ErrBound},
		// What is out of bounds is told ahead of a sum that is not right.
		{[]int{1, 1, 1, 16}, api.ErrBound},
		{many(301, 1), api.ErrBound},
		{[]int{2}, api.ErrShape},
		{[]int{0, 15, 0}, api.ErrShape},
		{[]int{1, 1, 1}, api.ErrShape},
		{[]int{1, 2}, api.ErrShape},
		{[]int{2, 2}, api.ErrShape},
		{[]int{2, 2, 2}, api.ErrShape},
		{[]int{1, 2, 3, 4}, api.ErrShape},
		{chain(15)[:15], api.ErrShape},
		{append(chain(15), 15), api.ErrShape},
		{append(many(2, 1), 15), api.ErrShape},
		{many(255, 8), api.ErrShape},
		{many(300, 1), api.ErrShape},
		{many(300, 15), api.ErrShape},
	}
}

func TestWrongLengths(t *testing.T) {
	for _, c := range wrongLengths() {
		if err := Valid(c.l); err != c.want {
			t.Errorf("Valid(%v): %v", c.l, err)
		}
		if l, err := Codes(c.l); err != c.want || len(l) != 0 {
			t.Errorf("Codes(%v): %v %v", c.l, l, err)
		}
		if tree, err := Read(c.l); err != c.want || tree != nil {
			t.Errorf("Read(%v): %v %v", c.l, tree, err)
		}
	}
}

// P31

func words(lengths []int, codes []uint32) []string {
	l := make([]string, len(codes))
	for i, n := range lengths {
		if n > 0 {
			l[i] = fmt.Sprintf("%0*b", n, codes[i])
		}
	}
	return l
}

func TestCodes(t *testing.T) {
	for _, c := range []struct {
		lengths []int
		want    string
	}{
		{nil, ""},
		{[]int{0, 0}, " "},
		{[]int{1}, "0"},
		{[]int{0, 0, 1, 0}, "  0 "},
		{[]int{1, 1}, "0 1"},
		{[]int{2, 1, 3, 3}, "10 0 110 111"},
		{[]int{3, 3, 3, 3, 3, 2, 4, 4}, "010 011 100 101 110 00 1110 1111"},
		{[]int{0, 2, 2, 0, 2, 2}, " 00 01  10 11"},
		{[]int{4, 4, 3, 0, 2, 1}, "1110 1111 110  10 0"},
		{[]int{1, 4, 0, 4, 4, 4, 4, 4, 4, 4}, "0 1000  1001 1010 1011 1100 1101 1110 1111"},
	} {
		l, err := Codes(c.lengths)
		if got := strings.Join(words(c.lengths, l), " "); got != c.want || err != nil || len(l) != len(c.lengths) {
			t.Errorf("%v: %q %v", c.lengths, got, err)
		}
	}
	l, err := Codes(chain(15))
	if err != nil || l[0] != 0 || l[1] != 2 || l[14] != 0x7FFE || l[15] != 0x7FFF {
		t.Errorf("words of up to 15 bits: %X %v", l, err)
	}
}

func TestCodesWithoutAWordAre0(t *testing.T) {
	m := mixer(2)
	for range 50 {
		lengths := m.splits(1+m.below(100), 15, 1+m.below(100))
		l, _ := Codes(lengths)
		for i, n := range lengths {
			if n == 0 && l[i] != 0 {
				t.Errorf("%v: symbol %d has %X", lengths, i, l[i])
			}
		}
	}
}

// P31 word by word: by the order of all pairs, held against each other.
func TestCodesAreAsTold(t *testing.T) {
	m := mixer(3)
	for range 60 {
		lengths := m.splits(2+m.below(120), 15, m.below(30))
		l, err := Codes(lengths)
		if err != nil {
			t.Fatal(err)
		}
		var order []int
		for n := 1; n <= 15; n++ {
			for i, length := range lengths {
				if length == n {
					order = append(order, i)
				}
			}
		}
		for i, symbol := range order {
			want := uint32(0)
			if i > 0 {
				ahead := order[i-1]
				want = (l[ahead] + 1) << (lengths[symbol] - lengths[ahead])
			}
			if l[symbol] != want {
				t.Fatalf("%v: symbol %d has %b, want %b", lengths, symbol, l[symbol], want)
			}
		}
	}
}

// P32

// leastCost by going through the depths: words are handed out to the greatest counts first; each depth that a count goes deeper costs it once.
func leastCost(counts []int, most int) int {
	var l []int
	for _, n := range counts {
		if n > 0 {
			l = append(l, n)
		}
	}
	if len(l) < 2 {
		return sumOf(l)
	}
	sort.Sort(sort.Reverse(sort.IntSlice(l)))
	rest := make([]int, len(l)+1)
	for i := len(l) - 1; i >= 0; i-- {
		rest[i] = rest[i+1] + l[i]
	}
	seen := map[[3]int]int{}
	var least func(depth, done, open int) int
	least = func(depth, done, open int) int {
		left := len(l) - done
		if open >= left {
			if open == left {
				return 0
			}
			return math.MaxInt
		}
		if depth == most {
			return math.MaxInt
		}
		key := [3]int{depth, done, open}
		if n, ok := seen[key]; ok {
			return n
		}
		best := math.MaxInt
		for k := 0; k < open; k++ {
			if n := least(depth+1, done+k, 2*(open-k)); n < math.MaxInt {
				best = min(best, n+rest[done+k])
			}
		}
		seen[key] = best
		return best
	}
	return least(0, 0, 1)
}

func sumOf(l []int) (sum int) {
	for _, n := range l {
		sum += n
	}
	return sum
}

type pile struct{ sort.IntSlice }

func (p *pile) Push(x any) { p.IntSlice = append(p.IntSlice, x.(int)) }

func (p *pile) Pop() any {
	last := p.IntSlice[len(p.IntSlice)-1]
	p.IntSlice = p.IntSlice[:len(p.IntSlice)-1]
	return last
}

// freeCost is that of lengths without a bound: the two least are joined till one is left.
func freeCost(counts []int) int {
	p := &pile{}
	for _, n := range counts {
		if n > 0 {
			p.IntSlice = append(p.IntSlice, n)
		}
	}
	if p.Len() == 1 {
		return p.IntSlice[0]
	}
	heap.Init(p)
	cost := 0
	for p.Len() > 1 {
		n := heap.Pop(p).(int) + heap.Pop(p).(int)
		cost += n
		heap.Push(p, n)
	}
	return cost
}

// checkLengths: right ones, for just the counts above 0, at most most; and what they cost.
func checkLengths(t *testing.T, counts []int, most int) int {
	t.Helper()
	l, err := Lengths(counts, most)
	if err != nil || len(l) != len(counts) || Valid(l) != nil {
		t.Fatalf("%v, %d: %v %v %v", counts, most, l, err, Valid(l))
	}
	cost := 0
	for i, n := range l {
		if n > most || (n > 0) != (counts[i] > 0) {
			t.Fatalf("%v, %d: %v", counts, most, l)
		}
		cost += n * counts[i]
	}
	if told, err := Cost(counts, l); told != cost || err != nil {
		t.Fatalf("Cost(%v, %v): %d %v, want %d", counts, l, told, err, cost)
	}
	return cost
}

func TestLengths(t *testing.T) {
	for _, c := range []struct {
		counts []int
		most   int
		want   int
	}{
		{nil, 1, 0}, {nil, 15, 0}, {[]int{0, 0, 0}, 1, 0}, {make([]int, 300), 15, 0},
		{[]int{7}, 1, 7}, {[]int{0, 7, 0}, 15, 7}, {[]int{1 << 20}, 15, 1 << 20},
		{[]int{1, 1000000}, 1, 1000001}, {[]int{1, 1 << 20}, 15, 1<<20 + 1},
		{[]int{1, 1, 1}, 2, 5}, {[]int{1, 1, 1, 1}, 2, 8}, {[]int{1, 2, 3, 100}, 2, 212},
		{[]int{5, 9, 12, 13, 16, 45}, 15, 224},
		{[]int{1, 1, 2, 3, 5, 8, 13}, 15, 78}, {[]int{1, 1, 2, 3, 5, 8, 13}, 3, 86},
		{many(256, 1), 8, 2048}, {many(300, 1<<20), 15, (212*8 + 88*9) << 20},
		{many(300, 1), 9, 212*8 + 88*9},
	} {
		if got := checkLengths(t, c.counts, c.most); got != c.want {
			t.Errorf("%v, %d: costs %d, want %d", c.counts, c.most, got, c.want)
		}
	}
}

// Counts that grow fast want words longer than most.
func TestLengthsAreHeldBack(t *testing.T) {
	var doubled, sums []int
	for i := range 21 {
		doubled = append(doubled, 1<<i)
		sums = append(sums, 1)
		if i > 1 {
			sums[i] = sums[i-1] + sums[i-2]
		}
	}
	for _, counts := range [][]int{doubled, sums} {
		for most := 5; most <= 15; most++ {
			got := checkLengths(t, counts, most)
			if want := leastCost(counts, most); got != want || got <= freeCost(counts) {
				t.Errorf("%v, %d: costs %d, want %d", counts, most, got, want)
			}
		}
	}
}

func TestLengthsCostLeast(t *testing.T) {
	m := mixer(4)
	for range 400 {
		counts := m.counts(m.below(40))
		some := 0
		for _, n := range counts {
			if n > 0 {
				some++
			}
		}
		for most := 1; most <= 15; most++ {
			if some > 1<<most {
				if l, err := Lengths(counts, most); err != api.ErrShape || len(l) != 0 {
					t.Fatalf("%v, %d: %v %v", counts, most, l, err)
				}
				continue
			}
			got := checkLengths(t, counts, most)
			if want := leastCost(counts, most); got != want {
				t.Fatalf("%v, %d: costs %d, want %d", counts, most, got, want)
			}
		}
	}
}

func TestLengthsOfMany(t *testing.T) {
	m := mixer(5)
	for range 40 {
		counts := make([]int, 300)
		for i := range counts {
			counts[i] = m.below(1 + 1<<m.below(10))
		}
		if got, want := checkLengths(t, counts, 15), freeCost(counts); got != want {
			t.Fatalf("%v: costs %d, want %d", counts, got, want)
		}
		most := 9 + m.below(6)
		if got := checkLengths(t, counts, most); got < freeCost(counts) {
			t.Fatalf("%v, %d: costs %d", counts, most, got)
		}
	}
}

func TestLengthsRefuses(t *testing.T) {
	for _, c := range []struct {
		counts []int
		most   int
		want   error
	}{
		{make([]int, 301), 15, api.ErrBound}, {many(301, 1), 15, api.ErrBound},
		{nil, 0, api.ErrBound}, {nil, 16, api.ErrBound}, {nil, -1, api.ErrBound}, {[]int{1, 1}, math.MinInt, api.ErrBound}, {[]int{1, 1}, math.MaxInt, api.ErrBound},
		{[]int{-1}, 5, api.ErrBound}, {[]int{1, 1, math.MinInt}, 5, api.ErrBound}, {[]int{1<<20 + 1}, 5, api.ErrBound}, {[]int{1, math.MaxInt}, 5, api.ErrBound},
		// What is out of bounds is told ahead of too many.
		{[]int{1, 1, 1, -1}, 1, api.ErrBound}, {[]int{1, 1, 1, 1<<20 + 1}, 1, api.ErrBound},
		{[]int{1, 1, 1}, 1, api.ErrShape}, {[]int{0, 1, 1, 0, 1}, 1, api.ErrShape}, {many(5, 1), 2, api.ErrShape}, {many(257, 1), 8, api.ErrShape}, {many(300, 1), 8, api.ErrShape},
	} {
		if l, err := Lengths(c.counts, c.most); err != c.want || len(l) != 0 {
			t.Errorf("%v, %d: %v %v", c.counts, c.most, l, err)
		}
	}
}

func TestCost(t *testing.T) {
	for _, c := range []struct {
		counts, lengths []int
		want            int
		err             error
	}{
		{nil, nil, 0, nil}, {[]int{}, nil, 0, nil}, {[]int{0}, []int{0}, 0, nil},
		{[]int{3}, []int{0}, 0, nil}, {[]int{0}, []int{3}, 0, nil},
		{[]int{3, 5, 7}, []int{2, 1, 2}, 25, nil},
		// Lengths that are not right, or longer than words may be, are summed as well.
		{[]int{3, 5}, []int{1000, 1}, 3005, nil}, {[]int{1 << 30}, []int{15}, 15 << 30, nil},
		{make([]int, 400), make([]int, 400), 0, nil},
		{[]int{1}, nil, 0, api.ErrShape}, {nil, []int{1}, 0, api.ErrShape}, {[]int{1, 2}, []int{1, 1, 0}, 0, api.ErrShape},
		{[]int{-1}, []int{1}, 0, api.ErrShape}, {[]int{1}, []int{-1}, 0, api.ErrShape}, {[]int{-1}, []int{-1}, 0, api.ErrShape},
		{[]int{5, -1}, []int{1, 0}, 0, api.ErrShape}, {[]int{5, 0}, []int{1, -1}, 0, api.ErrShape},
		{[]int{math.MinInt, 1}, []int{1, math.MinInt}, 0, api.ErrShape},
	} {
		if n, err := Cost(c.counts, c.lengths); n != c.want || err != c.err {
			t.Errorf("%v, %v: %d %v", c.counts, c.lengths, n, err)
		}
	}
}

// P33

// reader of bits that are given as characters; how many bits of its last byte are not of it.
func reader(s string) (*bits.Reader, int) {
	var w bits.Writer
	for _, c := range s {
		w.Put(uint32(c-'0'), 1)
	}
	r := bits.NewReader(w.Text())
	return r, r.Left() - len(s)
}

func mustRead(t *testing.T, lengths []int) *Tree {
	t.Helper()
	tree, err := Read(lengths)
	if err != nil || tree == nil {
		t.Fatalf("%v: %v %v", lengths, tree, err)
	}
	return tree
}

func TestNext(t *testing.T) {
	tree := mustRead(t, []int{2, 1, 3, 0, 3})
	r, _ := reader("10" + "110" + "111" + "0" + "10" + "0")
	at := 0
	for _, want := range []struct{ symbol, length int }{{0, 2}, {2, 3}, {4, 3}, {1, 1}, {0, 2}, {1, 1}} {
		at += want.length
		if k, err := tree.Next(r); k != want.symbol || err != nil || r.At() != at {
			t.Errorf("%d %v at %d, want %d at %d", k, err, r.At(), want.symbol, at)
		}
	}
}

func TestNextWhereBitsEnd(t *testing.T) {
	tree := mustRead(t, chain(15))
	for have := range 24 {
		s := strings.Repeat("1", have)
		r, idle := reader(strings.Repeat("0", (8-have%8)%8) + s)
		if idle != 0 {
			t.Fatal(idle)
		}
		for range (8 - have%8) % 8 {
			tree.Next(r)
		}
		k, err := tree.Next(r)
		if have >= 15 {
			if k != 15 || err != nil || r.Left() != have-15 {
				t.Errorf("%d bits: %d %v, %d left", have, k, err, r.Left())
			}
		} else if k != 0 || err != api.ErrText || r.Left() != 0 {
			t.Errorf("%d bits: %d %v, %d left", have, k, err, r.Left())
		}
	}
}

func TestNextOfOneWord(t *testing.T) {
	for _, symbol := range []int{0, 1, 299} {
		lengths := make([]int, symbol+1)
		lengths[symbol] = 1
		tree := mustRead(t, lengths)
		r, _ := reader("0010" + "0000")
		for i := range 8 {
			k, err := tree.Next(r)
			if i == 2 && (k != 0 || err != api.ErrText) || i != 2 && (k != symbol || err != nil) || r.At() != i+1 {
				t.Errorf("symbol %d, bit %d: %d %v at %d", symbol, i, k, err, r.At())
			}
		}
		if k, err := tree.Next(r); k != 0 || err != api.ErrText {
			t.Errorf("symbol %d, at the end: %d %v", symbol, k, err)
		}
	}
}

func TestNextOfNoWord(t *testing.T) {
	for _, lengths := range [][]int{nil, {}, {0}, make([]int, 300)} {
		tree := mustRead(t, lengths)
		for _, s := range []string{"", "\x00", "\xFF\xFF\xFF"} {
			if k, err := tree.Next(bits.NewReader(s)); k != 0 || err != api.ErrText {
				t.Errorf("%v, %q: %d %v", lengths, s, k, err)
			}
		}
	}
}

// A reader goes on behind what else was read of it, at any bit.
func TestNextBehindOtherBits(t *testing.T) {
	tree := mustRead(t, []int{2, 2, 2, 2})
	for lead := range 9 {
		r, _ := reader(strings.Repeat("1", lead) + "10" + "01")
		r.Get(lead)
		a, e1 := tree.Next(r)
		b, e2 := tree.Next(r)
		if a != 2 || b != 1 || e1 != nil || e2 != nil || r.At() != lead+4 {
			t.Errorf("behind %d: %d %d %v %v at %d", lead, a, b, e1, e2, r.At())
		}
	}
}

// P34

func TestNoWordBeginsAnother(t *testing.T) {
	m := mixer(6)
	for range 60 {
		lengths := m.splits(1+m.below(150), 15, m.below(20))
		l, err := Codes(lengths)
		if err != nil {
			t.Fatal(err)
		}
		all := slices.DeleteFunc(words(lengths, l), func(s string) bool { return s == "" })
		sort.Strings(all)
		for i := 1; i < len(all); i++ {
			if strings.HasPrefix(all[i], all[i-1]) {
				t.Fatalf("%v: %s begins %s", lengths, all[i-1], all[i])
			}
		}
	}
}

func TestWhatIsWrittenIsRead(t *testing.T) {
	m := mixer(7)
	for round := range 120 {
		lengths := m.splits(1+m.below(250), 15, m.below(50))
		if round == 0 {
			lengths = chain(15)
		}
		l, err := Codes(lengths)
		if err != nil {
			t.Fatal(err)
		}
		var w bits.Writer
		var symbols []int
		for len(symbols) < 500 {
			if k := m.below(len(lengths)); lengths[k] > 0 {
				symbols = append(symbols, k)
				w.Turned(l[k], lengths[k])
			}
		}
		tree, r := mustRead(t, lengths), bits.NewReader(w.Text())
		for i, want := range symbols {
			if k, err := tree.Next(r); k != want || err != nil {
				t.Fatalf("%v: symbol %d: %d %v, want %d", lengths, i, k, err, want)
			}
		}
		if r.At() != w.Len() {
			t.Fatalf("%v: %d read, %d written", lengths, r.At(), w.Len())
		}
	}
}

// No right lengths at all, gone through one by one, cost less.
func TestNoOtherLengthsCostLess(t *testing.T) {
	m := mixer(8)
	for range 150 {
		counts := make([]int, 2+m.below(4))
		for i := range counts {
			counts[i] = 1 + m.below(1+1<<m.below(6))
		}
		most := 3 + m.below(2)
		got := checkLengths(t, counts, most)
		lengths := many(len(counts), 1)
		for {
			if cost, _ := Cost(counts, lengths); Valid(lengths) == nil && cost < got {
				t.Fatalf("%v, %d: costs %d, and %v costs %d", counts, most, got, lengths, cost)
			}
			i := 0
			for i < len(lengths) && lengths[i] == most {
				lengths[i] = 1
				i++
			}
			if i == len(lengths) {
				break
			}
			lengths[i]++
		}
	}
}

// P1 to P4: what is handed over is only read, also behind its length; a later change of it shows nowhere; answers are new.

func TestArgumentsAreOnlyRead(t *testing.T) {
	memory := []int{2, 1, 3, 3, 99, -7}
	before := slices.Clone(memory)
	l := memory[:4]
	Valid(l)
	Codes(l)
	Lengths(l, 15)
	Cost(l, l)
	tree := mustRead(t, l)
	if !slices.Equal(memory, before) {
		t.Errorf("changed: %v", memory)
	}
	clear(memory)
	r, _ := reader("111" + "10")
	a, e1 := tree.Next(r)
	b, e2 := tree.Next(r)
	if a != 3 || b != 0 || e1 != nil || e2 != nil {
		t.Errorf("a tree whose lengths were changed behind it: %d %d %v %v", a, b, e1, e2)
	}
}

func TestAnswersAreNew(t *testing.T) {
	lengths := []int{2, 1, 3, 3}
	a, _ := Codes(lengths)
	clear(a)
	b, _ := Codes(lengths)
	if !slices.Equal(b, []uint32{2, 0, 6, 7}) {
		t.Errorf("words: %v", b)
	}
	counts := []int{2, 4, 1, 1}
	c, _ := Lengths(counts, 15)
	clear(c)
	d, _ := Lengths(counts, 15)
	if !slices.Equal(d, lengths) || !slices.Equal(counts, []int{2, 4, 1, 1}) {
		t.Errorf("lengths: %v, of %v", d, counts)
	}
}

// Two readers of one tree do not disturb each other: reading leaves the tree as it is.
func TestTreeStays(t *testing.T) {
	tree := mustRead(t, []int{2, 1, 3, 3})
	for range 3 {
		r, _ := reader("110" + "0")
		other, _ := reader("1")
		a, e1 := tree.Next(r)
		tree.Next(other)
		b, e2 := tree.Next(r)
		if a != 2 || b != 1 || e1 != nil || e2 != nil {
			t.Errorf("%d %d %v %v", a, b, e1, e2)
		}
	}
}
