package filter

import (
	"bytes"
	"compress/zlib"
	"errors"
	"fmt"
	"image"
	"image/png"
	"math"
	"strings"
	"testing"

	"layercake/api"
)

// mixer makes mixed numbers, the same ones at each run.
type mixer uint64

func (m *mixer) below(n int) int {
	*m = *m*6364136223846793005 + 1442695040888963407
	return int(*m>>33) % n
}

func (m *mixer) bytes(n, unlike int) string {
	l := make([]byte, n)
	for i := range l {
		l[i] = byte(m.below(unlike))
	}
	return string(l)
}

// slope: bytes that are near to those a step back.
func (m *mixer) slope(n, step int) string {
	l := make([]byte, n)
	for i := range l {
		if i >= step {
			l[i] = l[i-step]
		}
		l[i] += byte(m.below(7) - 3)
	}
	return string(l)
}

// near bytes to those of another row.
func (m *mixer) near(row string) string {
	l := []byte(row)
	for i := range l {
		l[i] += byte(m.below(5) - 2)
	}
	return string(l)
}

type pair struct{ row, ahead string }

// pairs of rows of n bytes, from like ones to such that have nothing in common.
func (m *mixer) pairs(n, step int) []pair {
	mixed, few, slope := m.bytes(n, 256), m.bytes(n, 3), m.slope(n, step)
	return []pair{
		{mixed, ""}, {few, ""}, {slope, ""}, {strings.Repeat("\x00", n), ""}, {strings.Repeat("\xff", n), ""},
		{mixed, m.bytes(n, 256)}, {mixed, m.near(mixed)}, {mixed, mixed}, {mixed, strings.Repeat("\x00", n)},
		{few, m.bytes(n, 3)}, {slope, m.slope(n, step)}, {slope, m.near(slope)}, {slope, few},
		{strings.Repeat("\xff", n), strings.Repeat("\xff", n)},
		{strings.Repeat("\x80", n), m.bytes(n, 256)},
		{m.bytes(n, 256), strings.Repeat("\xff", n)},
	}
}

func short(s string) string {
	if len(s) > 40 {
		return fmt.Sprintf("%q.. (%d)", s[:40], len(s))
	}
	return fmt.Sprintf("%q", s)
}

func does(t *testing.T, kind int, row, ahead string, step int, want string) {
	t.Helper()
	if got, err := Do(kind, row, ahead, step); got != want || err != nil {
		t.Errorf("Do(%d, %s, %s, %d): %s, %v, want %s", kind, short(row), short(ahead), step, short(got), err, short(want))
	}
}

func undoes(t *testing.T, kind int, row, ahead string, step int, want string) {
	t.Helper()
	if got, err := Undo(kind, row, ahead, step); got != want || err != nil {
		t.Errorf("Undo(%d, %s, %s, %d): %s, %v, want %s", kind, short(row), short(ahead), step, short(got), err, short(want))
	}
}

func isBest(t *testing.T, row, ahead string, step, want int) {
	t.Helper()
	if got, err := Best(row, ahead, step); got != want || err != nil {
		t.Errorf("Best(%s, %s, %d): %d, %v, want %d", short(row), short(ahead), step, got, err, want)
	}
}

func makes(t *testing.T, s string, wide, step int, want string) {
	t.Helper()
	if got, err := Rows(s, wide, step); got != want || err != nil {
		t.Errorf("Rows(%s, %d, %d): %s, %v, want %s", short(s), wide, step, short(got), err, short(want))
	}
}

func reads(t *testing.T, s string, wide, step int, want string) {
	t.Helper()
	if got, err := Back(s, wide, step); got != want || err != nil {
		t.Errorf("Back(%s, %d, %d): %s, %v, want %s", short(s), wide, step, short(got), err, short(want))
	}
}

// fails: Do, Undo, and with the kind 0 also Best.
func fails(t *testing.T, kind int, row, ahead string, step int, want error) {
	t.Helper()
	if got, err := Do(kind, row, ahead, step); got != "" || err != want {
		t.Errorf("Do(%d, %s, %s, %d): %s, %v, want %v", kind, short(row), short(ahead), step, short(got), err, want)
	}
	if got, err := Undo(kind, row, ahead, step); got != "" || err != want {
		t.Errorf("Undo(%d, %s, %s, %d): %s, %v, want %v", kind, short(row), short(ahead), step, short(got), err, want)
	}
	if kind != 0 {
		return
	}
	if got, err := Best(row, ahead, step); got != 0 || err != want {
		t.Errorf("Best(%s, %s, %d): %d, %v, want %v", short(row), short(ahead), step, got, err, want)
	}
}

func rowsFail(t *testing.T, s string, wide, step int, want error) {
	t.Helper()
	if got, err := Rows(s, wide, step); got != "" || err != want {
		t.Errorf("Rows(%s, %d, %d): %s, %v, want %v", short(s), wide, step, short(got), err, want)
	}
}

func backFails(t *testing.T, s string, wide, step int, want error) {
	t.Helper()
	if got, err := Back(s, wide, step); got != "" || err != want {
		t.Errorf("Back(%s, %d, %d): %s, %v, want %v", short(s), wide, step, short(got), err, want)
	}
}

// P80, P81

func TestKindsByHand(t *testing.T) {
	for _, c := range []struct {
		kind       int
		row, ahead string
		step       int
		want       string
	}{
		{0, "\x05\x09", "\x01\x02", 1, "\x05\x09"},
		{1, "\x05\x09\x01", "\x01\x02\x03", 1, "\x05\x04\xf8"},
		{1, "\x05\x09\x01", "", 2, "\x05\x09\xfc"},
		{2, "\x05\x09\x01", "\x01\x0a\x01", 1, "\x04\xff\x00"},
		{2, "\x05\x09\x01", "", 1, "\x05\x09\x01"},
		// Half of 255 and 254, of 255 and 255, of 0 and 1: above what a byte holds, and rounded down.
		{3, "\xff\x00", "\xff\xfe", 1, "\x80\x02"},
		{3, "\xff\x00", "\xff\xff", 1, "\x80\x01"},
		{3, "\x00\x00", "\x01\x01", 1, "\x00\x00"},
		{3, "\x03\x00", "", 1, "\x03\xff"},
		// A 10, B 20: nearest to 20 is B with C 10, to 10 is A with C 20; C with 15 between.
		{4, "\x0a\x00", "\x0a\x14", 1, "\x00\xec"},
		{4, "\x0a\x00", "\x14\x14", 1, "\xf6\xf6"},
		{4, "\x0a\x00", "\x0f\x14", 1, "\xfb\xf1"},
		// A 0, B 2, C 1 is 1: C alone, between both.
		{4, "\x00\x00", "\x01\x02", 1, "\xff\xff"},
		// A 4, B 4, C 0: 8 is as near to A as to B.
		{4, "\x04\x00", "\x00\x04", 1, "\x04\xfc"},
		// A 4, B 1, C 2: 3 is 1 of A and of C; A.
		{4, "\x04\x00", "\x02\x01", 1, "\x02\xfc"},
		// A 1, B 4, C 2: 3 is 1 of B and of C; B.
		{4, "\x01\x00", "\x02\x04", 1, "\xff\xfc"},
		// Beyond a byte: A 255, B 255, C 0 is 510; A 0, B 0, C 255 is -255.
		{4, "\xff\x00", "\x00\xff", 1, "\xff\x01"},
		{4, "\x00\x07", "\xff\x00", 1, "\x01\x07"},
		// Without a row ahead it is A.
		{4, "\x05\x09\x01", "", 1, "\x05\x04\xf8"},
		{4, "\x05\x09\x01\x02", "", 3, "\x05\x09\x01\xfd"},
	} {
		does(t, c.kind, c.row, c.ahead, c.step, c.want)
		undoes(t, c.kind, c.want, c.ahead, c.step, c.row)
		if got := slowDo(c.kind, c.row, c.ahead, c.step); got != c.want {
			t.Errorf("the slow one: %d %q %q: %q", c.kind, c.row, c.ahead, got)
		}
	}
}

func TestDoIsAsTold(t *testing.T) {
	m := mixer(1)
	for step := 1; step <= 8; step++ {
		for _, n := range []int{0, 1, 2, 3, 7, 8, 9, 16, 17, 300} {
			for _, c := range m.pairs(n, step) {
				for kind := range 5 {
					does(t, kind, c.row, c.ahead, step, slowDo(kind, c.row, c.ahead, step))
					undoes(t, kind, c.row, c.ahead, step, slowUndo(kind, c.row, c.ahead, step))
				}
			}
		}
	}
}

// Every A, B and C: of each two bytes the second one is 0 and is foretold by all three.
func TestEveryThree(t *testing.T) {
	for c := range 256 {
		row, ahead := make([]byte, 0, 1<<17), make([]byte, 0, 1<<17)
		for ab := range 1 << 16 {
			row = append(row, byte(ab>>8), 0)
			ahead = append(ahead, byte(c), byte(ab))
		}
		half, err := Do(3, string(row), string(ahead), 1)
		if err != nil {
			t.Fatal(err)
		}
		nearest, err := Do(4, string(row), string(ahead), 1)
		if err != nil {
			t.Fatal(err)
		}
		for ab := range 1 << 16 {
			a, b := ab>>8, ab&255
			if want := byte(-((a + b) / 2)); half[2*ab+1] != want {
				t.Fatalf("%d %d: %d, want %d", a, b, half[2*ab+1], want)
			}
			if want := byte(-farFromC(a, b, c)); nearest[2*ab+1] != want {
				t.Fatalf("%d %d %d: %d, want %d", a, b, c, nearest[2*ab+1], want)
			}
		}
	}
}

// farFromC: A + B - C is as far from A as B is from C, and as far from B as A is from C.
func farFromC(a, b, c int) int {
	farA, farB, farC := max(b-c, c-b), max(a-c, c-a), max(a+b-2*c, 2*c-a-b)
	switch {
	case farA <= farB && farA <= farC:
		return a
	case farB <= farC:
		return b
	}
	return c
}

// The library reads what is done, of every kind of picture that it has with pixels of whole bytes.
func TestLibraryReadsWhatIsDone(t *testing.T) {
	m := mixer(2)
	for _, c := range []struct{ depth, kind, step int }{{8, 0, 1}, {8, 4, 2}, {16, 0, 2}, {8, 2, 3}, {8, 6, 4}, {16, 2, 6}, {16, 6, 8}} {
		const wide, high = 23, 16
		all := m.slope(wide*high*c.step, c.step)
		told, asItWas, ahead := "", "", ""
		for i, row := range split(all, wide*c.step) {
			kind := i % 5
			done, err := Do(kind, row, ahead, c.step)
			if err != nil {
				t.Fatal(err)
			}
			told += string([]byte{byte(kind)}) + done
			asItWas += "\x00" + row
			ahead = row
		}
		rows, err := Rows(all, wide*c.step, c.step)
		if err != nil {
			t.Fatal(err)
		}
		want := pictureOf(t, asItWas, wide, high, c.depth, c.kind)
		for name, s := range map[string]string{"Do": told, "Rows": rows} {
			if got := pictureOf(t, s, wide, high, c.depth, c.kind); !samePicture(got, want) {
				t.Errorf("%s, step %d: another picture", name, c.step)
			}
		}
	}
}

func pictureOf(t *testing.T, rows string, wide, high, depth, kind int) image.Image {
	t.Helper()
	var b bytes.Buffer
	w := zlib.NewWriter(&b)
	w.Write([]byte(rows))
	w.Close()
	p, err := png.Decode(strings.NewReader(fileOf(b.String(), wide, high, depth, kind)))
	if err != nil {
		t.Fatal(err)
	}
	return p
}

func samePicture(a, b image.Image) bool {
	if a.Bounds() != b.Bounds() {
		return false
	}
	for y := range a.Bounds().Dy() {
		for x := range a.Bounds().Dx() {
			if a.At(x, y) != b.At(x, y) {
				return false
			}
		}
	}
	return true
}

// A step further than the row is long: no byte lies a step back.
func TestStepBeyondTheRow(t *testing.T) {
	for _, kind := range []int{0, 1} {
		does(t, kind, "\x01\x02\x03", "\x04\x05\x06", 3, "\x01\x02\x03")
		does(t, kind, "\x01\x02\x03", "\x04\x05\x06", 8, "\x01\x02\x03")
	}
	does(t, 3, "\x01\x02\x03", "\x04\x05\x06", 8, "\xff\x00\x00")
	for _, kind := range []int{2, 4} {
		does(t, kind, "\x01\x02\x03", "\x04\x05\x06", 8, "\xfd\xfd\xfd")
	}
}

func TestRowOfNothing(t *testing.T) {
	for step := 1; step <= 8; step++ {
		for kind := range 5 {
			does(t, kind, "", "", step, "")
			undoes(t, kind, "", "", step, "")
		}
		isBest(t, "", "", step, 0)
	}
}

// A row may have any length.
func TestLongRow(t *testing.T) {
	m := mixer(3)
	row, ahead := m.bytes(api.MaxBytes+7, 256), m.bytes(api.MaxBytes+7, 256)
	for kind := range 5 {
		done := slowDo(kind, row, ahead, 4)
		does(t, kind, row, ahead, 4, done)
		undoes(t, kind, done, ahead, 4, row)
	}
	isBest(t, row, row, 4, 2)
}

func TestRowFaults(t *testing.T) {
	for _, n := range []int{math.MinInt, -256, -1, 5, 6, 255, 256, 1 << 32, math.MaxInt} {
		fails(t, n, "abc", "abc", 1, api.ErrBound)
		fails(t, n, "", "", 1, api.ErrBound)
		// The bounds are told ahead of the shape.
		fails(t, n, "abc", "ab", 1, api.ErrBound)
	}
	for kind := range 5 {
		for _, n := range []int{math.MinInt, -1, 0, 9, 10, 256, 257, 1 << 32, math.MaxInt} {
			fails(t, kind, "abc", "abc", n, api.ErrBound)
			fails(t, kind, "", "", n, api.ErrBound)
			fails(t, kind, "abc", "ab", n, api.ErrBound)
		}
		for step := 1; step <= 8; step++ {
			for _, c := range []pair{{"abc", "a"}, {"abc", "ab"}, {"abc", "abcd"}, {"", "a"}, {"a", strings.Repeat("a", 1000)}} {
				fails(t, kind, c.row, c.ahead, step, api.ErrShape)
			}
		}
	}
}

// P82

func TestBestByHand(t *testing.T) {
	for _, c := range []struct {
		row, ahead string
		step, want int
	}{
		{"\x00\x00", "", 1, 0},
		{"\x05\x05\x05\x05", "\x05\x05\x05\x05", 1, 2},
		{"\x05\x05\x05\x05", "", 1, 1},
		// 1 and 4 are as good without a row ahead, 0 and 2 also: the first one.
		{"\x07", "", 1, 0},
		{"\x07", "\x00", 1, 0},
		{"\x01\x01\x02\x02", "", 2, 1},
		// Half of 40 and nothing.
		{"\x14\x14\x14", "\x28\x14\x14", 1, 3},
		// B at first, A at last: 40 alone is not foretold.
		{"\x32\x5a\x5a", "\x32\x32\x32", 1, 4},
		// 255 counts 1, and 2 less of 253; 253 counts 3, and 2 less of 255.
		{"\xff", "\xfd", 1, 0},
		{"\xfd", "\xff", 1, 2},
		// 128 counts 128, 127 counts 127; 129 counts 127, and 128 less of 1.
		{"\x80", "\x01", 1, 2},
		{"\x81", "\x01", 1, 0},
		{"\x80", "\xff", 1, 3},
		{"\x7f", "\xff", 1, 3},
	} {
		isBest(t, c.row, c.ahead, c.step, c.want)
		if got := slowBest(c.row, c.ahead, c.step); got != c.want {
			t.Errorf("the slow one: %q %q %d: %d", c.row, c.ahead, c.step, got)
		}
	}
}

func TestBestIsAsTold(t *testing.T) {
	m := mixer(4)
	got := map[int]int{}
	for step := 1; step <= 8; step++ {
		for _, n := range []int{0, 1, 2, 3, 8, 9, 40} {
			for range 4 {
				for _, c := range m.pairs(n, step) {
					want := slowBest(c.row, c.ahead, step)
					isBest(t, c.row, c.ahead, step, want)
					got[want]++
				}
			}
		}
	}
	for kind := range 5 {
		if got[kind] < 40 {
			t.Errorf("kind %d: %d times", kind, got[kind])
		}
	}
}

// Every row of one byte below every other one.
func TestBestOfOneByte(t *testing.T) {
	for x := range 256 {
		for b := range 256 {
			row, ahead := string([]byte{byte(x)}), string([]byte{byte(b)})
			isBest(t, row, ahead, 1, slowBest(row, ahead, 1))
		}
	}
}

// P83

func TestRowsByHand(t *testing.T) {
	makes(t, "\x05\x05\x05\x05\x05\x05", 3, 1, "\x01\x05\x00\x00\x02\x00\x00\x00")
	makes(t, "\x05\x05\x05\x05\x05\x05", 6, 1, "\x01\x05\x00\x00\x00\x00\x00")
	makes(t, "\x05\x05\x05\x05", 1, 1, "\x00\x05\x02\x00\x02\x00\x02\x00")
	makes(t, "abab", 4, 2, "\x01ab\x00\x00")
	// The row ahead is as it is, not as it is told.
	makes(t, "\x09\x09\x09\x09\x09\x09\x09\x09\x09", 3, 1, "\x01\x09\x00\x00\x02\x00\x00\x00\x02\x00\x00\x00")
	for _, wide := range []int{1, 2, 4096, api.MaxBytes} {
		makes(t, "", wide, 1, "")
		reads(t, "", wide, 1, "")
	}
}

func TestBackByHand(t *testing.T) {
	reads(t, "\x01\x05\x00\x00\x02\x00\x00\x00", 3, 1, "\x05\x05\x05\x05\x05\x05")
	// Kinds that are not the best ones.
	reads(t, "\x00ab\x00cd", 2, 1, "abcd")
	reads(t, "\x02\x01\x02\x02\x01\x02\x02\x01\x02", 2, 1, "\x01\x02\x02\x04\x03\x06")
	reads(t, "\x04\x01\x01\x03\x01\x01\x01\x01\x01", 2, 1, "\x01\x02\x01\x02\x01\x02")
	reads(t, "\x03\x01\x01\x03\x01\x01", 2, 2, "\x01\x01\x01\x01")
}

func TestRowsAreAsTold(t *testing.T) {
	m := mixer(5)
	for step := 1; step <= 8; step++ {
		for _, wide := range []int{1, 2, 7, 8, 9, 30} {
			for _, high := range []int{1, 2, 3, 12} {
				for _, s := range []string{m.bytes(wide*high, 256), m.slope(wide*high, step), m.bytes(wide*high, 2), m.slope(wide*high, wide)} {
					rows := slowRows(s, wide, step)
					makes(t, s, wide, step, rows)
					reads(t, rows, wide, step, s)
				}
			}
		}
	}
}

// Rows of any kinds, and whatever stands in them.
func TestBackOfAnything(t *testing.T) {
	m := mixer(6)
	for step := 1; step <= 8; step++ {
		for range 200 {
			wide := 1 + m.below(20)
			s := ""
			for range m.below(9) {
				s += m.bytes(1, 5) + m.bytes(wide, 256)
			}
			reads(t, s, wide, step, slowBack(s, wide, step))
		}
	}
}

func TestRowsFaults(t *testing.T) {
	long := strings.Repeat("\x00", api.MaxBytes+1)
	for _, s := range []string{"", "\x00", "abc", long} {
		for _, n := range []int{math.MinInt, -2, -1, 0, api.MaxBytes + 1, math.MaxInt - 1, math.MaxInt} {
			rowsFail(t, s, n, 1, api.ErrBound)
			backFails(t, s, n, 1, api.ErrBound)
		}
		for _, n := range []int{math.MinInt, -1, 0, 9, 256, 257, math.MaxInt} {
			for _, wide := range []int{1, 2, 3, 7} {
				rowsFail(t, s, wide, n, api.ErrBound)
				backFails(t, s, wide, n, api.ErrBound)
			}
		}
	}
	for _, wide := range []int{1, 2, 7, api.MaxBytes} {
		rowsFail(t, long, wide, 1, api.ErrBound)
		backFails(t, long, wide, 1, api.ErrBound)
	}
}

func TestNoWholeRows(t *testing.T) {
	for wide := 1; wide <= 9; wide++ {
		for n := range 60 {
			s := strings.Repeat("\x09", n)
			if n%wide != 0 {
				rowsFail(t, s, wide, 1, api.ErrShape)
			}
			// The shape is told ahead of a kind that is none.
			if n%(wide+1) != 0 {
				backFails(t, s, wide, 1, api.ErrShape)
			}
		}
	}
	rowsFail(t, "abc", api.MaxBytes, 1, api.ErrShape)
	backFails(t, "abc", api.MaxBytes, 1, api.ErrShape)
	backFails(t, strings.Repeat("\x00", api.MaxBytes), api.MaxBytes, 1, api.ErrShape)
}

func TestKindIsNone(t *testing.T) {
	for _, wide := range []int{1, 2, 5} {
		for high := 1; high <= 6; high++ {
			for first := range high {
				for _, kind := range []int{5, 6, 48, 127, 128, 251, 252, 255} {
					l := []byte(strings.Repeat("\x04"+strings.Repeat("\xff", wide), high))
					// The last row's kind is none either.
					l[(high-1)*(wide+1)] = 5
					l[first*(wide+1)] = byte(kind)
					got, err := Back(string(l), wide, 1)
					var f *api.Fault
					if got != "" || !errors.As(err, &f) || f.At != first || f.Err != api.ErrText {
						t.Errorf("kind %d of row %d of %d: %q, %v", kind, first, high, got, err)
					}
				}
			}
		}
	}
}

// Texts of MaxBytes bytes, by rows of all widths that fit.
func TestLongTexts(t *testing.T) {
	m := mixer(7)
	s := m.bytes(api.MaxBytes, 256)
	for _, wide := range []int{1, 2, 1000, api.MaxBytes / 2, api.MaxBytes} {
		rows, err := Rows(s, wide, 3)
		if len(rows) != api.MaxBytes+api.MaxBytes/wide || err != nil {
			t.Fatalf("%d wide: %d bytes, %v", wide, len(rows), err)
		}
		if got := slowBack(rows, wide, 3); got != s {
			t.Errorf("%d wide: %s", wide, short(got))
		}
		// It has more bytes than are taken back.
		backFails(t, rows, wide, 3, api.ErrBound)
	}
	for _, wide := range []int{1, 2, 3, 4, 1199, api.MaxBytes/2 - 1, api.MaxBytes - 1} {
		high := api.MaxBytes / (wide + 1)
		rows, err := Rows(s[:wide*high], wide, 3)
		if err != nil {
			t.Fatal(err)
		}
		reads(t, rows, wide, 3, s[:wide*high])
	}
}

// P84

func TestDoneIsUndone(t *testing.T) {
	m := mixer(8)
	for step := 1; step <= 8; step++ {
		for n := range 30 {
			for _, c := range m.pairs(n, step) {
				for kind := range 5 {
					done, err := Do(kind, c.row, c.ahead, step)
					if err != nil {
						t.Fatal(err)
					}
					undoes(t, kind, done, c.ahead, step, c.row)
				}
			}
		}
	}
}

func TestBackReadsRows(t *testing.T) {
	m := mixer(9)
	for range 2000 {
		wide, step := 1+m.below(50), 1+m.below(8)
		s := m.slope(wide*m.below(12), 1+m.below(60))
		rows, err := Rows(s, wide, step)
		if err != nil {
			t.Fatal(err)
		}
		reads(t, rows, wide, step, s)
	}
}

// P2
func TestCallsAreApart(t *testing.T) {
	m := mixer(10)
	s := m.slope(900, 30)
	want := slowRows(s, 30, 2)
	for range 3 {
		Rows(m.bytes(600, 256), 20, 4)
		backFails(t, want[:40], 30, 2, api.ErrShape)
		makes(t, s, 30, 2, want)
		reads(t, want, 30, 2, s)
	}
}
