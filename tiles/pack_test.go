package tiles

import (
	"strings"
	"testing"

	"layercake/api"
	"layercake/deflate"
)

// unreadable: refused as what Pack makes of no grid.
func unreadable(t *testing.T, name any, s string) {
	t.Helper()
	g, err := Unpack(s)
	if g != nil || err != api.ErrText && err != api.ErrSum {
		t.Errorf("%v: %v, %#v", name, g != nil, err)
	}
}

// P132, P133

func TestPackedIsUnpacked(t *testing.T) {
	m := mixer(21)
	for _, wide := range sides() {
		for _, high := range sides() {
			p := m.patched(wide, high)
			if wide*high < 2000 {
				p = m.picture(wide, high)
			}
			g := gridOf(t, p)
			s := g.Pack()
			got, err := Unpack(s)
			if err != nil {
				t.Fatalf("%d by %d: %v", wide, high, err)
			}
			isOf(t, [2]int{wide, high}, got, p)
			if got.Pack() != s {
				t.Errorf("%d by %d: packed otherwise again", wide, high)
			}
		}
	}
}

// The longest that there can be: 65536 pixels that can't be packed.
func TestGreatest(t *testing.T) {
	m := mixer(22)
	p := m.picture(256, 256)
	s := gridOf(t, p).Pack()
	if len(s) > api.MaxBytes {
		t.Errorf("%d bytes", len(s))
	}
	got, err := Unpack(s)
	if err != nil {
		t.Fatal(err)
	}
	isOf(t, "the greatest", got, p)
	for range 300 {
		at := m.below(len(s))
		b := []byte(s)
		b[at] ^= 1 << m.below(8)
		unreadable(t, at, string(b))
	}
}

func TestOneBitTurned(t *testing.T) {
	m := mixer(23)
	for _, p := range []api.Picture{colored(1, 1, api.Pixel{}), colored(256, 256, api.Pixel{}), colored(20, 33, m.pixel()), m.picture(1, 1), m.picture(17, 17), m.patched(100, 70), m.patched(40, 256)} {
		s := gridOf(t, p).Pack()
		for at := range 8 * len(s) {
			b := []byte(s)
			b[at/8] ^= 1 << (at % 8)
			unreadable(t, at, string(b))
		}
	}
}

// All of one color, and each tile of another one.
func TestPlainOnesAreShort(t *testing.T) {
	m := mixer(24)
	for _, wide := range sides() {
		for _, high := range sides() {
			most := 64 + 8*((wide+15)/16)*((high+15)/16)
			g := gridOf(t, colored(wide, high, m.pixel()))
			if got := len(g.Pack()); got > most {
				t.Errorf("%d by %d: %d bytes, at most %d", wide, high, got, most)
			}
			p := api.Picture{Wide: wide, High: high, P: make([]api.Pixel, wide*high)}
			colors := m.picture(16, 16).P
			for i := range p.P {
				p.P[i] = colors[i/wide/16*16+i%wide/16]
			}
			g = gridOf(t, p)
			if s := g.Pack(); len(s) > most || g.Plain() != most/8-8 {
				t.Errorf("%d by %d: %d bytes, at most %d; %d plain ones", wide, high, len(s), most, g.Plain())
			}
			if got, err := Unpack(g.Pack()); err != nil || !same(got.Picture(), p) {
				t.Errorf("%d by %d: %v", wide, high, err)
			}
		}
	}
}

// However a grid came to be as it is, and only then.
func TestPackedAlike(t *testing.T) {
	m := mixer(25)
	seen := map[string]string{}
	for range 200 {
		p := m.patched(m.between(1, 40), m.between(1, 40))
		g := gridOf(t, p)
		r := api.Rect{X: m.below(p.Wide), Y: m.below(p.High), W: m.between(1, 30), H: m.between(1, 30)}
		was := g.Picture()
		for i := range was.P {
			was.P[i].A = 255
		}
		full := gridOf(t, was)
		other, _ := full.Fill(r, m.pixel())
		back, _ := other.Stamp(was, 0, 0, 0)
		unpacked, err := Unpack(full.Pack())
		if err != nil || back.Pack() != full.Pack() || unpacked.Pack() != full.Pack() || gridOf(t, copied(p)).Pack() != g.Pack() {
			t.Fatalf("%d by %d: %v, or packed unlike", p.Wide, p.High, err)
		}
		for _, x := range []*Grid{g, full, other} {
			told := pictureText(x.Picture())
			if before, ok := seen[x.Pack()]; ok && before != told {
				t.Fatal("unlike pictures are packed alike")
			}
			seen[x.Pack()] = told
		}
	}
}

func pictureText(p api.Picture) string {
	var b strings.Builder
	b.WriteString(string([]rune{rune(p.Wide), rune(p.High)}))
	for _, c := range p.P {
		b.Write([]byte{c.R, c.G, c.B, c.A})
	}
	return b.String()
}

func TestUnpackOfNone(t *testing.T) {
	m := mixer(26)
	good := gridOf(t, m.patched(40, 40)).Pack()
	for n := range len(good) {
		unreadable(t, n, good[:n])
		unreadable(t, n, good[n+1:])
		unreadable(t, n, good[:n]+good[n+1:])
		unreadable(t, n, good[:n]+"\x00"+good[n:])
	}
	for _, s := range []string{"", "\x00", "abc", "abcde", "abcdef", "abcdefghijklmnop", good + "\x00", "\x00" + good, good + good, strings.Repeat("\x00", 1000)} {
		unreadable(t, len(s), s)
	}
	for n := range 200 {
		b := make([]byte, n)
		for i := range b {
			b[i] = byte(m.below(256))
		}
		unreadable(t, n, string(b))
		unreadable(t, n, summed(string(b)))
	}
}

func TestUnpackOfTooMany(t *testing.T) {
	m := mixer(27)
	good := gridOf(t, m.patched(40, 40)).Pack()
	for _, n := range []int{api.MaxBytes + 1, api.MaxBytes + 2, 2 * api.MaxBytes} {
		fails(t, n, call(Unpack(strings.Repeat("\x00", n))), api.ErrBound)
		fails(t, n, call(Unpack(good+strings.Repeat("\x00", n-len(good)))), api.ErrBound)
		fails(t, n, call(Unpack(summed(strings.Repeat("\x00", n-4)))), api.ErrBound)
	}
	unreadable(t, "as many as may be", strings.Repeat("\x00", api.MaxBytes))
	unreadable(t, "as many as may be, summed", summed(strings.Repeat("\x00", api.MaxBytes-4)))
}

// With a right sum, but not as Pack makes it: what is read is asked too, not the sum alone.
func TestForged(t *testing.T) {
	blank := colored(20, 20, api.Pixel{R: 1, G: 2, B: 3, A: 4})
	blank.P[0].R = 9
	good := gridOf(t, blank).Pack()
	size, body := good[:2], packedBody(good)
	packed := func(s string) string {
		out, err := deflate.Deflate(s)
		if err != nil {
			t.Fatal(err)
		}
		return out
	}
	if again := summed(size + packed(body)); again != good {
		t.Fatalf("the form is another one: %q, %q", again, good)
	}
	many := func(count int) string { return strings.Repeat("\x01\x02\x03\x04", count) }
	first := body[:1+4*256]
	stored, _ := deflate.Stored(body)
	for name, s := range map[string]string{
		"another way to pack":          size + stored,
		"bytes behind what is packed":  size + packed(body) + "\x00",
		"nothing packed":               size,
		"what can't be read":           size + "\x07",
		"a byte too few":               size + packed(body[:len(body)-1]),
		"a byte too many":              size + packed(body+"\x00"),
		"a tile too few":               size + packed(body[:len(body)-5]),
		"a tile too many":              size + packed(body+"\x00"+many(1)),
		"no tile":                      size + packed(""),
		"another size":                 "\x0f\x0f" + packed(body),
		"a greater size":               "\xff\xff" + packed(body),
		"plain ones told in full":      size + packed(first+"\x01"+many(64)+"\x01"+many(64)+"\x01"+many(16)),
		"the last one told in full":    size + packed(body[:len(body)-5]+"\x01"+many(16)),
		"another byte ahead of a tile": size + packed("\x02"+body[1:]),
		"many bytes":                   size + packed(strings.Repeat("\x00", api.MaxBytes)),
		"too many bytes":               size + slowPacked(strings.Repeat("\x00", api.MaxBytes+1)),
		"far too many bytes":           "\xff\xff" + slowPacked(strings.Repeat("\x00", 100*api.MaxBytes)),
	} {
		fails(t, name, call(Unpack(summed(s))), api.ErrText)
	}
	fails(t, "another sum", call(Unpack(good[:len(good)-1]+string([]byte{good[len(good)-1] ^ 1}))), api.ErrSum)
}
