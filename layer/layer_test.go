package layer

import (
	"fmt"
	"math"
	"reflect"
	"slices"
	"strings"
	"testing"

	"layercake/api"
	"layercake/plain"
)

// mixer makes mixed numbers, the same ones at each run.
type mixer uint64

func (m *mixer) below(n int) int {
	*m = *m*6364136223846793005 + 1442695040888963407
	return int(*m>>33) % n
}

// between two numbers, both of them among it.
func (m *mixer) between(from, to int) int { return from + m.below(to-from+1) }

// cover: often none of it, or all.
func (m *mixer) cover() uint8 { return [...]uint8{0, 255, 1, uint8(m.below(256))}[m.below(4)] }

func (m *mixer) pixel() api.Pixel {
	return api.Pixel{R: uint8(m.below(256)), G: uint8(m.below(256)), B: uint8(m.below(256)), A: m.cover()}
}

func (m *mixer) picture(wide, high int) api.Picture {
	p := api.Picture{Wide: wide, High: high}
	for range wide * high {
		p.P = append(p.P, m.pixel())
	}
	return p
}

// layer whose picture may lie within, across, or outside a document of that side.
func (m *mixer) layer(name string, side int) Layer {
	return Layer{
		Name: name, X: m.between(-side, side), Y: m.between(-side, side), Hidden: m.below(4) == 0,
		Opacity: [...]int{0, 255, 255, m.below(256)}[m.below(4)], Mode: m.below(6),
		P: m.picture(m.between(1, side), m.between(1, side)),
	}
}

// doc of so many layers, by the names a, b and so on.
func (m *mixer) doc(side, many int) Doc {
	d := Doc{Wide: m.between(1, side), High: m.between(1, side)}
	for i := range many {
		d.L = append(d.L, m.layer(letter(i), side))
	}
	return d
}

func letter(i int) string { return string(rune('a' + i)) }

func colored(wide, high int, c api.Pixel) api.Picture {
	return api.Picture{Wide: wide, High: high, P: slices.Repeat([]api.Pixel{c}, wide*high)}
}

func dot() api.Picture { return colored(1, 1, api.Pixel{R: 1, G: 2, B: 3, A: 4}) }

// dots: a document of layers by those names, each of one pixel.
func dots(names ...string) Doc {
	d := Doc{Wide: 2, High: 2}
	for i, name := range names {
		d.L = append(d.L, Layer{Name: name, X: i, Opacity: 255, P: dot()})
	}
	return d
}

func copied(d Doc) Doc {
	d.L = slices.Clone(d.L)
	for i := range d.L {
		d.L[i].P.P = slices.Clone(d.L[i].P.P)
	}
	return d
}

// same: nil lists are as empty ones.
func same(a, b Doc) bool {
	return a.Wide == b.Wide && a.High == b.High && slices.EqualFunc(a.L, b.L, sameLayer)
}

func sameLayer(a, b Layer) bool {
	if !slices.Equal(a.P.P, b.P.P) {
		return false
	}
	a.P.P, b.P.P = nil, nil
	return reflect.DeepEqual(a, b)
}

func samePicture(a, b api.Picture) bool {
	return a.Wide == b.Wide && a.High == b.High && slices.Equal(a.P, b.P)
}

func short(d Doc) string {
	var names []string
	for _, l := range d.L {
		names = append(names, fmt.Sprintf("%s (%d by %d)", l.Name, l.P.Wide, l.P.High))
	}
	return fmt.Sprintf("%d by %d: %s", d.Wide, d.High, strings.Join(names, ", "))
}

// told by one call.
type told struct {
	d   Doc
	err error
}

func call(d Doc, err error) told { return told{d, err} }

func gives(t *testing.T, name any, got told, want Doc) {
	t.Helper()
	if got.err != nil || !same(got.d, want) {
		t.Errorf("%v: %s, %v, want %s", name, short(got.d), got.err, short(want))
	}
	if err := Check(got.d); err != nil {
		t.Errorf("%v: not right: %v", name, err)
	}
}

// isError: just that one; bare, or as a fault at that place if it is not below 0.
func isError(t *testing.T, name any, err, want error, at int) {
	t.Helper()
	if want == nil || at < 0 {
		if err != want {
			t.Errorf("%v: %#v, want the bare %v", name, err, want)
		}
		return
	}
	if f, ok := err.(*api.Fault); !ok || f.At != at || f.Err != want {
		code, place := plain.Code(err)
		t.Errorf("%v: error %d at %d (%#v), want %v at %d", name, code, place, err, want, at)
	}
}

// fails: with just that error and no document.
func fails(t *testing.T, name any, got told, want error, at int) {
	t.Helper()
	isError(t, name, got.err, want, at)
	if got.d.Wide != 0 || got.d.High != 0 || len(got.d.L) != 0 {
		t.Errorf("%v: %s with an error", name, short(got.d))
	}
}

// flatOf a document that is right.
func flatOf(t *testing.T, name any, d Doc) api.Picture {
	t.Helper()
	p, err := Flatten(d)
	if err != nil || p.Wide != d.Wide || p.High != d.High || len(p.P) != d.Wide*d.High {
		t.Fatalf("%v: %d by %d, %d pixels, %v, of %s", name, p.Wide, p.High, len(p.P), err, short(d))
	}
	return p
}

// beyond all that a number of a document may be.
func beyond() []int {
	return []int{10001, -10001, 10002, 1 << 20, 1 << 31, -1 << 31, 1 << 32, 1<<32 + 1, -1 << 32, math.MaxInt, math.MinInt, math.MaxInt - 1, math.MinInt + 1}
}

func notRight() []api.Picture {
	l := []api.Picture{{}, {Wide: 1, High: 1}, {P: []api.Pixel{{}}}, {Wide: 1 << 32, High: 1 << 32}, {Wide: math.MinInt, High: 2}, {Wide: -1, High: -1, P: make([]api.Pixel, 1)}}
	for _, c := range [][3]int{{2, 2, 3}, {2, 2, 5}, {257, 1, 257}, {1, 257, 257}, {0, 4, 0}, {4, 0, 0}, {-2, 2, 4}, {256, 256, 65535}, {256, 256, 65537}, {math.MaxInt, math.MaxInt, 1}} {
		l = append(l, api.Picture{Wide: c[0], High: c[1], P: make([]api.Pixel, c[2])})
	}
	return l
}

func noNames() []string {
	return []string{"", "abcdefghijklm", "aaaaaaaaaaaaa", "A", "aB", "a1", "1", " ", "a ", " a", "a b", "a\n", "a\x00", "\x00", "ab-", "_", "`", "{", "@", "[", "ä", "é", "\xff", "a\xe4", "ａ", strings.Repeat("a", 256), strings.Repeat("z", 1000)}
}

// P140

func TestRight(t *testing.T) {
	greatest := colored(256, 256, api.Pixel{})
	for i, d := range []Doc{
		{Wide: 1, High: 1},
		{Wide: 256, High: 256, L: []Layer{}},
		{Wide: 256, High: 1, L: []Layer{{Name: "a", P: dot()}}},
		{Wide: 1, High: 256, L: []Layer{{Name: "z", X: -10000, Y: 10000, Hidden: true, Opacity: 255, Mode: 5, P: greatest}}},
		{Wide: 1, High: 1, L: []Layer{{Name: "abcdefghijkl", X: 10000, Y: -10000, P: greatest}, {Name: "zyxwvutsrqpo", P: dot()}, {Name: "mn", P: dot()}}},
		{Wide: 9, High: 9, L: []Layer{{Name: "a", P: dot()}, {Name: "aa", P: dot()}, {Name: "aaa", P: dot()}, {Name: "ab", P: dot()}}},
		dots("a", "b", "c", "d", "e", "f", "g", "h"),
	} {
		if err := Check(d); err != nil {
			t.Errorf("%d: %v", i, err)
		}
		flatOf(t, i, d)
	}
}

func TestEveryMode(t *testing.T) {
	for mode := -10; mode <= 20; mode++ {
		d := Doc{Wide: 1, High: 1, L: []Layer{{Name: "a", Mode: mode, P: dot()}}}
		want, at := slowCheck(d)
		isError(t, mode, Check(d), want, at)
	}
	for opacity := -300; opacity <= 600; opacity++ {
		d := Doc{Wide: 1, High: 1, L: []Layer{{Name: "a", Opacity: opacity, P: dot()}}}
		want, at := slowCheck(d)
		isError(t, opacity, Check(d), want, at)
	}
}

func TestEveryByteOfAName(t *testing.T) {
	for i := range 256 {
		for _, name := range []string{string([]byte{byte(i)}), "ab" + string([]byte{byte(i)}), string([]byte{byte(i)}) + "ab", "abcdefghijk" + string([]byte{byte(i)})} {
			d := dots("x", "y")
			d.L[1].Name = name
			want, at := slowCheck(d)
			isError(t, fmt.Sprintf("%q", name), Check(d), want, at)
		}
	}
	for n := range 20 {
		d := dots(strings.Repeat("m", n))
		want, at := slowCheck(d)
		isError(t, n, Check(d), want, at)
	}
}

func TestBareBounds(t *testing.T) {
	for _, n := range append(beyond(), 0, -1, 257, 258) {
		for _, d := range []Doc{{Wide: n, High: 1}, {Wide: 1, High: n}, {Wide: n, High: n}} {
			isError(t, n, Check(d), api.ErrBound, -1)
			// Whatever the layers are.
			d.L = []Layer{{}}
			isError(t, n, Check(d), api.ErrBound, -1)
		}
	}
	for _, many := range []int{9, 10, 300} {
		isError(t, many, Check(Doc{Wide: 1, High: 1, L: make([]Layer, many)}), api.ErrBound, -1)
	}
	isError(t, "nine that are right", Check(dots("a", "b", "c", "d", "e", "f", "g", "h", "i")), api.ErrBound, -1)
	isError(t, "nothing", Check(Doc{}), api.ErrBound, -1)
}

// spoilt: each thing of one layer that may be wrong, with its error.
func spoilt() map[error][]func(l *Layer) {
	l := map[error][]func(l *Layer){}
	for _, n := range beyond() {
		l[api.ErrBound] = append(l[api.ErrBound], func(l *Layer) { l.X = n }, func(l *Layer) { l.Y = n }, func(l *Layer) { l.Opacity = n }, func(l *Layer) { l.Mode = n })
	}
	for _, n := range []int{-1, 256, 257} {
		l[api.ErrBound] = append(l[api.ErrBound], func(l *Layer) { l.Opacity = n })
	}
	for _, n := range []int{-1, 6, 7, 255} {
		l[api.ErrBound] = append(l[api.ErrBound], func(l *Layer) { l.Mode = n })
	}
	for _, p := range notRight() {
		l[api.ErrShape] = append(l[api.ErrShape], func(l *Layer) { l.P = p })
	}
	for _, name := range noNames() {
		l[api.ErrName] = append(l[api.ErrName], func(l *Layer) { l.Name = name })
	}
	return l
}

func TestFaults(t *testing.T) {
	names := []string{"a", "b", "c", "d", "e", "f", "g", "h"}
	for want, list := range spoilt() {
		for i, spoil := range list {
			for at := range names {
				d := dots(names...)
				spoil(&d.L[at])
				isError(t, i, Check(d), want, at)
				// Hidden ones are asked, too.
				d.L[at].Hidden = true
				isError(t, i, Check(d), want, at)
			}
		}
	}
}

func TestFirstFault(t *testing.T) {
	m := mixer(1)
	all := spoilt()
	var list []func(l *Layer)
	for _, e := range []error{api.ErrName, api.ErrBound, api.ErrShape} {
		list = append(list, all[e]...)
	}
	for i := range 3000 {
		d := m.doc(3, m.below(9))
		for range m.below(4) {
			if len(d.L) > 0 {
				list[m.below(len(list))](&d.L[m.below(len(d.L))])
			}
		}
		want, at := slowCheck(d)
		isError(t, i, Check(d), want, at)
	}
}

// Of one layer, the name is told ahead of the numbers, and these ahead of the picture.
func TestOrderOfFaults(t *testing.T) {
	all := spoilt()
	order := []error{api.ErrName, api.ErrBound, api.ErrShape}
	for i, first := range order {
		for _, then := range order[i+1:] {
			for j, spoil := range all[first] {
				for _, more := range all[then] {
					d := dots("a", "b", "c")
					spoil(&d.L[1])
					more(&d.L[1])
					all[api.ErrName][0](&d.L[2])
					isError(t, j, Check(d), first, 1)
				}
			}
		}
	}
}

func TestNamesAlike(t *testing.T) {
	names := []string{"a", "b", "c", "d", "e", "f", "g", "h"}
	for i := range names {
		for j := range i {
			d := dots(names...)
			d.L[i].Name = d.L[j].Name
			isError(t, [2]int{j, i}, Check(d), api.ErrName, i)
			d.L[i].X = 10001
			d.L[i].P = api.Picture{}
			d.L[j].Hidden = true
			isError(t, [2]int{j, i}, Check(d), api.ErrName, i)
			// What is wrong ahead of it is told first.
			d.L[j].P = api.Picture{}
			isError(t, [2]int{j, i}, Check(d), api.ErrShape, j)
		}
	}
	isError(t, "three", Check(dots("x", "y", "y", "y")), api.ErrName, 2)
	isError(t, "long ones", Check(dots("abcdefghijkl", "abcdefghijkm", "abcdefghijkl")), api.ErrName, 2)
}

// calls of all, with what is right beside the document and with what is not.
func calls(d Doc) map[string]told {
	good := Layer{Name: "new", P: dot()}
	flatten := func(p api.Picture, err error) told { return told{Doc{p.Wide, p.High, make([]Layer, len(p.P))}, err} }
	look := func(c api.Pixel, err error) told {
		return told{Doc{Wide: int(c.R) + int(c.G) + int(c.B) + int(c.A)}, err}
	}
	return map[string]told{
		"Check":       {Doc{}, Check(d)},
		"Flatten":     flatten(Flatten(d)),
		"Look":        look(Look(d, 0, 0)),
		"Look none":   look(Look(d, -1, math.MaxInt)),
		"Add":         call(Add(d, good)),
		"Add none":    call(Add(d, Layer{})),
		"Remove":      call(Remove(d, "a")),
		"Remove none": call(Remove(d, "none")),
		"Move":        call(Move(d, "a", 0)),
		"Move none":   call(Move(d, "none", 0)),
		"Move far":    call(Move(d, "a", math.MinInt)),
		"Merge":       call(Merge(d, "a")),
		"Merge none":  call(Merge(d, "")),
	}
}

func TestAllCallsAskFirst(t *testing.T) {
	for i, d := range []Doc{{}, {Wide: 257, High: 1}, {Wide: 1, High: math.MinInt}, {Wide: 1, High: 1, L: make([]Layer, 9)}, dots("a", "b", "c", "d", "e", "f", "g", "h", "i")} {
		for name, got := range calls(d) {
			fails(t, [2]any{name, i}, got, api.ErrBound, -1)
		}
	}
	for want, list := range spoilt() {
		for i, spoil := range list {
			// Full, so that one more would be too many: what is wrong of the older ones is told all the same.
			d := dots("a", "b", "c", "d", "e", "f", "g", "h")
			spoil(&d.L[5])
			for name, got := range calls(d) {
				fails(t, [2]any{name, i}, got, want, 5)
			}
		}
	}
}

// P141

func TestFlatten(t *testing.T) {
	m := mixer(2)
	for i := range 3000 {
		d := m.doc(9, m.below(9))
		got, want := flatOf(t, i, d), slowFlatten(d)
		if !samePicture(got, want) {
			t.Fatalf("%d: %s: %v, want %v", i, short(d), got, want)
		}
		for j, c := range want.P {
			if seen, err := Look(d, j%d.Wide, j/d.Wide); seen != c || err != nil {
				t.Fatalf("%d: %s at %d: %v, %v, want %v", i, short(d), j, seen, err, c)
			}
		}
	}
}

func TestNoLayers(t *testing.T) {
	for _, c := range [][2]int{{1, 1}, {3, 2}, {256, 256}} {
		if got := flatOf(t, c, Doc{Wide: c[0], High: c[1]}); !samePicture(got, colored(c[0], c[1], api.Pixel{})) {
			t.Errorf("%v: not zero pixels", c)
		}
	}
}

// By hand: 100 faded by 128 covers 12800 / 255, rounded 50. Of the top one over it, 205 of 255 are 51 as it is, and 50 of 255 are 51 times 10 of 255: 41 and 0.39.
func TestByHand(t *testing.T) {
	d := Doc{Wide: 2, High: 2, L: []Layer{
		{Name: "low", Opacity: 128, P: colored(1, 1, api.Pixel{R: 10, G: 20, B: 30, A: 100})},
		{Name: "mid", X: 1, Y: 1, Opacity: 255, P: colored(9, 9, api.Pixel{R: 100, A: 255})},
		{Name: "top", X: -1, Y: -1, Opacity: 255, Mode: 1, P: colored(3, 3, api.Pixel{R: 51, A: 255})},
		{Name: "gone", Opacity: 0, P: colored(2, 2, api.Pixel{R: 255, A: 255})},
		{Name: "off", Hidden: true, Opacity: 255, P: colored(2, 2, api.Pixel{R: 255, A: 255})},
	}}
	want := []api.Pixel{{R: 41, A: 255}, {R: 51, A: 255}, {R: 51, A: 255}, {R: 20, A: 255}}
	if got := flatOf(t, "hand", d); !slices.Equal(got.P, want) {
		t.Errorf("%v, want %v", got.P, want)
	}
	d.L = d.L[:1]
	if got := flatOf(t, "hand", d); !slices.Equal(got.P, []api.Pixel{{R: 10, G: 20, B: 30, A: 50}, {}, {}, {}}) {
		t.Error(got.P)
	}
}

// The order of layers, and whether each pixel is faded ahead of being laid over, is to be seen.
func TestFadedAheadOfOver(t *testing.T) {
	below, above := api.Pixel{R: 200, G: 100, A: 255}, api.Pixel{R: 100, G: 200, A: 255}
	for mode := range 6 {
		for opacity := range 256 {
			d := Doc{Wide: 1, High: 1, L: []Layer{{Name: "a", Opacity: 255, P: colored(1, 1, below)}, {Name: "b", Opacity: opacity, Mode: mode, P: colored(1, 1, above)}}}
			got, want := flatOf(t, mode, d), slowFlatten(d)
			if !samePicture(got, want) {
				t.Errorf("mode %d, opacity %d: %v, want %v", mode, opacity, got.P, want.P)
			}
			if opacity == 0 && got.P[0] != below {
				t.Errorf("mode %d: faded to nothing, it makes %v", mode, got.P)
			}
		}
	}
}

// Far layers are not seen, but for those that reach in by their sides.
func TestFarLayers(t *testing.T) {
	red := api.Pixel{R: 255, A: 255}
	for _, c := range []struct{ x, y, count int }{
		{10000, 0, 0}, {-10000, 0, 0}, {0, 10000, 0}, {0, -10000, 0}, {-10000, -10000, 0}, {10000, 10000, 0},
		{-256, 0, 0}, {-255, 0, 3}, {4, 0, 0}, {3, 0, 3}, {0, -256, 0}, {0, -255, 4}, {0, 3, 0}, {0, 2, 4}, {3, 2, 1}, {-255, -255, 1}, {0, 0, 12},
	} {
		d := Doc{Wide: 4, High: 3, L: []Layer{{Name: "a", X: c.x, Y: c.y, Opacity: 255, P: colored(256, 256, red)}}}
		count := 0
		for _, p := range flatOf(t, c, d).P {
			if p == red {
				count++
			}
		}
		if count != c.count {
			t.Errorf("%v: %d pixels", c, count)
		}
	}
}

func TestGreatest(t *testing.T) {
	m := mixer(3)
	d := Doc{Wide: 256, High: 256}
	for i := range 8 {
		d.L = append(d.L, Layer{Name: letter(i), Opacity: m.between(1, 255), Mode: i % 6, P: m.picture(256, 256)})
	}
	if !samePicture(flatOf(t, "greatest", d), slowFlatten(d)) {
		t.Error("another picture")
	}
}

func TestLookOutside(t *testing.T) {
	d := Doc{Wide: 3, High: 2, L: []Layer{{Name: "a", X: -5, Y: -5, Opacity: 255, P: colored(20, 20, api.Pixel{R: 9, A: 255})}}}
	outside := [][2]int{{3, 0}, {0, 2}, {3, 2}, {-1, 0}, {0, -1}, {2, 2}, {3, 1}, {-1, 1}, {2, -1}, {-1, 2}, {6, -1}}
	for _, n := range beyond() {
		outside = append(outside, [2]int{n, 0}, [2]int{0, n}, [2]int{n, n})
	}
	for _, at := range outside {
		if c, err := Look(d, at[0], at[1]); c != (api.Pixel{}) || err != api.ErrBound {
			t.Errorf("%v: %v, %#v", at, c, err)
		}
	}
}

// P142

func TestAdd(t *testing.T) {
	m := mixer(4)
	d := Doc{Wide: 5, High: 4}
	for i := range 8 {
		l := m.layer(letter(i), 5)
		want := Doc{5, 4, append(slices.Clone(d.L), l)}
		got := call(Add(d, l))
		gives(t, i, got, want)
		d = got.d
	}
	fails(t, "nine", call(Add(d, m.layer("i", 5))), api.ErrBound, -1)
	// How many is told ahead of what is wrong of the new one.
	fails(t, "nine", call(Add(d, Layer{})), api.ErrBound, -1)
	fails(t, "nine", call(Add(d, d.L[0])), api.ErrBound, -1)
}

func TestAddFaults(t *testing.T) {
	names := []string{"a", "b", "c", "d", "e", "f", "g"}
	for many := range len(names) + 1 {
		for want, list := range spoilt() {
			for i, spoil := range list {
				l := Layer{Name: "new", P: dot()}
				spoil(&l)
				fails(t, i, call(Add(dots(names[:many]...), l)), want, many)
			}
		}
		for _, name := range names[:many] {
			fails(t, name, call(Add(dots(names[:many]...), Layer{Name: name, X: 10001})), api.ErrName, many)
		}
	}
}

func TestRemove(t *testing.T) {
	m := mixer(5)
	for many := range 9 {
		d := m.doc(6, many)
		for i, l := range d.L {
			gives(t, [2]int{many, i}, call(Remove(d, l.Name)), Doc{d.Wide, d.High, slices.Concat(d.L[:i], d.L[i+1:])})
		}
	}
}

func TestMove(t *testing.T) {
	m := mixer(6)
	for many := range 9 {
		d := m.doc(4, many)
		for i, l := range d.L {
			for to := range many {
				got := call(Move(d, l.Name, to))
				gives(t, [3]int{many, i, to}, got, Doc{d.Wide, d.High, slowMove(d.L, i, to)})
				if at := numberOf(l.Name, got.d.L); at != to {
					t.Errorf("%d of %d moved to %d: %d", i, many, to, at)
				}
				gives(t, "back", call(Move(got.d, l.Name, i)), d)
			}
			for _, to := range append(beyond(), -1, -2, many, many+1, 8, 9, 255) {
				if to < 0 || to >= many {
					fails(t, [3]int{many, i, to}, call(Move(d, l.Name, to)), api.ErrBound, -1)
				}
			}
		}
	}
}

func TestMerge(t *testing.T) {
	m := mixer(7)
	for range 100 {
		for many := range 9 {
			d := m.doc(6, many)
			for i, l := range d.L {
				one := Layer{Name: l.Name, Opacity: 255, P: slowFlatten(Doc{d.Wide, d.High, d.L[:i+1]})}
				gives(t, [2]int{many, i}, call(Merge(d, l.Name)), Doc{d.Wide, d.High, slices.Concat([]Layer{one}, d.L[i+1:])})
			}
		}
	}
}

// One layer alone, and a hidden one, are made flat, too: of the document's size, and shown.
func TestMergeOfOne(t *testing.T) {
	d := Doc{Wide: 2, High: 1, L: []Layer{{Name: "a", X: 1, Y: -1, Opacity: 128, Mode: 3, P: colored(1, 3, api.Pixel{R: 7, A: 255})}}}
	want := Doc{Wide: 2, High: 1, L: []Layer{{Name: "a", Opacity: 255, P: api.Picture{Wide: 2, High: 1, P: []api.Pixel{{}, {R: 7, A: 128}}}}}}
	gives(t, "one", call(Merge(d, "a")), want)
	d.L[0].Hidden = true
	want.L[0].P.P[1] = api.Pixel{}
	gives(t, "hidden", call(Merge(d, "a")), want)
}

func TestNoSuchLayer(t *testing.T) {
	d := dots("a", "b", "abc")
	for _, name := range append(noNames(), "c", "ab", "abcd", "bc", "B", "aa") {
		quoted := fmt.Sprintf("%.30q", name)
		fails(t, quoted, call(Remove(d, name)), api.ErrNone, -1)
		fails(t, quoted, call(Merge(d, name)), api.ErrNone, -1)
		for _, to := range []int{0, 2, 3, -1, math.MaxInt, math.MinInt} {
			fails(t, quoted, call(Move(d, name, to)), api.ErrNone, -1)
		}
	}
	for _, none := range []Doc{{Wide: 1, High: 1}, {Wide: 1, High: 1, L: []Layer{}}} {
		fails(t, "empty", call(Remove(none, "a")), api.ErrNone, -1)
		fails(t, "empty", call(Merge(none, "a")), api.ErrNone, -1)
		fails(t, "empty", call(Move(none, "a", 0)), api.ErrNone, -1)
	}
}

// P143

func TestHiddenAsIfNotThere(t *testing.T) {
	m := mixer(8)
	for i := range 1000 {
		d := m.doc(7, m.below(9))
		shown := copied(d)
		for _, l := range d.L {
			if l.Hidden {
				got := call(Remove(shown, l.Name))
				if got.err != nil {
					t.Fatal(got.err)
				}
				shown = got.d
			}
		}
		if !samePicture(flatOf(t, i, d), flatOf(t, i, shown)) {
			t.Errorf("%d: %s: hidden ones are seen", i, short(d))
		}
	}
}

func TestMergedIsTheSame(t *testing.T) {
	m := mixer(9)
	for i := range 1000 {
		d := m.doc(7, m.between(1, 8))
		whole := flatOf(t, i, d)
		at := m.below(len(d.L))
		for _, name := range []string{d.L[at].Name, d.L[len(d.L)-1].Name} {
			got := call(Merge(d, name))
			if got.err != nil || !samePicture(flatOf(t, i, got.d), whole) {
				t.Errorf("%d: %s, merged from %s: %v", i, short(d), name, got.err)
			}
			gives(t, "merged twice", call(Merge(got.d, name)), got.d)
		}
		for j := at + 1; j < len(d.L); j++ {
			d.L[j] = Layer{Name: d.L[j].Name, Opacity: 255, P: colored(d.Wide, d.High, api.Pixel{R: uint8(j), A: 255})}
		}
		got := call(Merge(d, d.L[at].Name))
		if got.err != nil || !samePicture(flatOf(t, i, got.d), flatOf(t, i, d)) {
			t.Errorf("%d: %s, merged under what hides: %v", i, short(d), got.err)
		}
	}
}

// P4

// roomy: the lists have room behind their lengths, with layers and pixels in it that are to stay.
func roomy(d Doc) (Doc, func() bool) {
	before := copied(d)
	mark, extra := api.Pixel{R: 77, G: 66, B: 55, A: 44}, Layer{Name: "room", Mode: 99}
	list := append(slices.Clone(d.L), extra, extra, extra)
	for i := range d.L {
		list[i].P.P = append(slices.Clone(d.L[i].P.P), mark, mark, mark)[:len(d.L[i].P.P)]
	}
	d.L = list[:len(d.L)]
	return d, func() bool {
		for i := range d.L {
			n := len(d.L[i].P.P)
			if !slices.Equal(d.L[i].P.P[n:n+3], []api.Pixel{mark, mark, mark}) {
				return false
			}
		}
		return same(d, before) && slices.EqualFunc(list[len(d.L):], []Layer{extra, extra, extra}, sameLayer)
	}
}

func TestOnlyRead(t *testing.T) {
	m := mixer(10)
	for many := range 9 {
		d, isAsItWas := roomy(m.doc(5, many))
		for i := range max(many, 1) {
			l, name := m.layer("new", 5), letter(i)
			before := copied(Doc{L: []Layer{l}})
			l.P.P = append(l.P.P, api.Pixel{R: 1})[:len(l.P.P)]
			Check(d)
			Flatten(d)
			Look(d, 0, 0)
			Add(d, l)
			Add(d, Layer{})
			Remove(d, name)
			Merge(d, name)
			for to := range many + 1 {
				Move(d, name, to)
			}
			if !isAsItWas() || !same(Doc{L: []Layer{l}}, before) || l.P.P[:len(l.P.P)+1][len(l.P.P)] != (api.Pixel{R: 1}) {
				t.Errorf("%d layers: changed by the calls for %s", many, name)
			}
		}
	}
}

// spoil all that an answer holds, also behind its lengths.
func spoil(d Doc) {
	list := d.L[:cap(d.L)]
	for i := range list {
		l := list[i].P.P[:cap(list[i].P.P)]
		for j := range l {
			l[j] = api.Pixel{R: 123, G: 45, B: 67, A: 89}
		}
		list[i] = Layer{Name: "spoilt"}
	}
}

func TestNewMemory(t *testing.T) {
	m := mixer(11)
	for many := 1; many < 8; many++ {
		d, isAsItWas := roomy(m.doc(5, many))
		l := m.layer("new", 5)
		before := copied(Doc{L: []Layer{l}})
		for i := range many {
			answers := []told{call(Add(d, l)), call(Remove(d, letter(i))), call(Move(d, letter(i), many-1-i)), call(Move(d, letter(i), i)), call(Merge(d, letter(i)))}
			for j, got := range answers {
				if got.err != nil {
					t.Fatalf("%d of %d: %v", j, i, got.err)
				}
				spoil(got.d)
				if !isAsItWas() || !same(Doc{L: []Layer{l}}, before) {
					t.Fatalf("%d layers, answer %d of %d: shared with what was handed in", many, j, i)
				}
			}
		}
	}
}

// A later change of what was handed in does not show.
func TestNotKept(t *testing.T) {
	m := mixer(12)
	for many := 1; many < 8; many++ {
		for i := range many {
			d, l := m.doc(5, many), m.layer("new", 5)
			answers := []told{call(Add(d, l)), call(Remove(d, letter(i))), call(Move(d, letter(i), many-1-i)), call(Merge(d, letter(i)))}
			var before []Doc
			for _, got := range answers {
				before = append(before, copied(got.d))
			}
			spoil(d)
			spoil(Doc{L: []Layer{l}})
			for j, got := range answers {
				if !same(got.d, before[j]) {
					t.Errorf("%d layers, answer %d of %d: kept", many, j, i)
				}
			}
		}
	}
}

// Layers that have one list of pixels for all of them are answered with a list each.
func TestNoSharedPixels(t *testing.T) {
	p := colored(2, 2, api.Pixel{R: 1, A: 255})
	d := Doc{Wide: 2, High: 2}
	for i := range 4 {
		d.L = append(d.L, Layer{Name: letter(i), Opacity: 255, P: p})
	}
	for i, got := range []told{call(Add(d, Layer{Name: "new", P: p})), call(Remove(d, "b")), call(Move(d, "a", 3)), call(Merge(d, "a"))} {
		for j := range got.d.L {
			before := copied(got.d)
			got.d.L[j].P.P[0] = api.Pixel{G: 9, A: 9}
			before.L[j].P.P[0] = api.Pixel{G: 9, A: 9}
			if !same(got.d, before) {
				t.Errorf("answer %d: layer %d shares its pixels", i, j)
			}
		}
	}
	// Nor are the pixels of what is flattened those of a layer.
	before := copied(d)
	flatOf(t, "flat", d).P[0] = api.Pixel{B: 5}
	if !same(d, before) {
		t.Error("Flatten shares pixels")
	}
}
