package bits

import (
	"errors"
	"math"
	"strings"
	"testing"

	"layercake/api"
)

// slow is P20 word by word: bits as the characters 0 and 1, in the order in which they are written.
type slow struct{ bits string }

func (s *slow) put(n uint32, width int) {
	for i := 0; i < width; i++ {
		s.bits += string(rune('0' + n>>i&1))
	}
}

func (s *slow) turned(n uint32, width int) {
	for i := width - 1; i >= 0; i-- {
		s.bits += string(rune('0' + n>>i&1))
	}
}

func (s *slow) align() {
	for len(s.bits)%8 != 0 {
		s.bits += "0"
	}
}

func (s *slow) text() string {
	whole := *s
	whole.align()
	var out []byte
	for at := 0; at < len(whole.bits); at += 8 {
		b := 0
		for i := 7; i >= 0; i-- {
			b = b*2 + int(whole.bits[at+i]-'0')
		}
		out = append(out, byte(b))
	}
	return string(out)
}

// mixer makes mixed numbers, the same ones at each run.
type mixer uint64

func (m *mixer) next() uint32 {
	*m = *m*6364136223846793005 + 1442695040888963407
	return uint32(*m >> 32)
}

// sized: a number of at most width bits, and with all of them often.
func (m *mixer) sized(width int) uint32 {
	n := m.next()
	if m.next()>>31 == 1 {
		n |= 1 << 31
	}
	return uint32(uint64(n) >> (32 - width))
}

func lowest(width int) uint32 { return uint32(uint64(1)<<width - 1) }

// P20

func TestNewWriterHasNoBits(t *testing.T) {
	var w Writer
	if w.Len() != 0 || w.Text() != "" {
		t.Errorf("%d %q", w.Len(), w.Text())
	}
	w.Align()
	if w.Len() != 0 || w.Text() != "" {
		t.Errorf("aligned: %d %q", w.Len(), w.Text())
	}
}

func TestPutAndTurned(t *testing.T) {
	for _, c := range []struct {
		n           uint32
		width       int
		put, turned string
	}{
		{0, 0, "", ""},
		{0, 1, "\x00", "\x00"},
		{1, 1, "\x01", "\x01"},
		{1, 2, "\x01", "\x02"},
		{6, 3, "\x06", "\x03"},
		{1, 8, "\x01", "\x80"},
		{0xC1, 8, "\xC1", "\x83"},
		{1, 9, "\x01\x00", "\x00\x01"},
		{0x100, 9, "\x00\x01", "\x01\x00"},
		{0x1234, 16, "\x34\x12", "\x48\x2C"},
		{1, 32, "\x01\x00\x00\x00", "\x00\x00\x00\x80"},
		{0x80000000, 32, "\x00\x00\x00\x80", "\x01\x00\x00\x00"},
		{0x12345678, 32, "\x78\x56\x34\x12", "\x48\x2C\x6A\x1E"},
		{0x7FFFFFFF, 31, "\xFF\xFF\xFF\x7F", "\xFF\xFF\xFF\x7F"},
		{0xFFFFFFFF, 32, "\xFF\xFF\xFF\xFF", "\xFF\xFF\xFF\xFF"},
	} {
		var w Writer
		if err := w.Put(c.n, c.width); err != nil || w.Len() != c.width || w.Text() != c.put {
			t.Errorf("Put(%X, %d): %v %d %q", c.n, c.width, err, w.Len(), w.Text())
		}
		w = Writer{}
		if err := w.Turned(c.n, c.width); err != nil || w.Len() != c.width || w.Text() != c.turned {
			t.Errorf("Turned(%X, %d): %v %d %q", c.n, c.width, err, w.Len(), w.Text())
		}
	}
}

func TestWriterIsAsTold(t *testing.T) {
	m := mixer(1)
	for round := range 300 {
		var w Writer
		var s slow
		for range 40 {
			width := int(m.next() % 33)
			n := m.sized(width)
			var err error
			switch m.next() % 7 {
			case 0:
				w.Align()
				s.align()
			case 1, 2, 3:
				err = w.Put(n, width)
				s.put(n, width)
			default:
				err = w.Turned(n, width)
				s.turned(n, width)
			}
			if err != nil || w.Len() != len(s.bits) || w.Text() != s.text() {
				t.Fatalf("round %d: %v, %d bits %q, want %d bits %q", round, err, w.Len(), w.Text(), len(s.bits), s.text())
			}
		}
	}
}

func TestEveryWidthAtEveryPlace(t *testing.T) {
	for lead := range 16 {
		for width := range 33 {
			for _, n := range []uint32{0, lowest(width), 0x9E3779B9 & lowest(width), lowest(width) &^ (lowest(width) >> 1), lowest(width) & 1} {
				var put, turned Writer
				var slowPut, slowTurned slow
				e1, e2 := put.Put(lowest(lead), lead), put.Put(n, width)
				e3, e4 := turned.Put(0, lead), turned.Turned(n, width)
				slowPut.put(lowest(lead), lead)
				slowPut.put(n, width)
				slowTurned.put(0, lead)
				slowTurned.turned(n, width)
				if err := errors.Join(e1, e2, e3, e4); err != nil {
					t.Fatalf("%X of %d bits behind %d: %v", n, width, lead, err)
				}
				if put.Text() != slowPut.text() || put.Len() != lead+width {
					t.Errorf("Put(%X, %d) behind %d: %q, want %q", n, width, lead, put.Text(), slowPut.text())
				}
				if turned.Text() != slowTurned.text() || turned.Len() != lead+width {
					t.Errorf("Turned(%X, %d) behind %d: %q, want %q", n, width, lead, turned.Text(), slowTurned.text())
				}
			}
		}
	}
}

func TestWriterAligns(t *testing.T) {
	for n := range 26 {
		var w Writer
		w.Put(lowest(n), n)
		w.Align()
		if want := (n + 7) / 8 * 8; w.Len() != want || len(w.Text())*8 != want {
			t.Errorf("%d bits: %d %q", n, w.Len(), w.Text())
		}
		before := w.Text()
		w.Align()
		if w.Text() != before || w.Len() != len(before)*8 {
			t.Errorf("%d bits, aligned twice: %d %q", n, w.Len(), w.Text())
		}
		w.Put(1, 1)
		if w.Text() != before+"\x01" || w.Len() != len(before)*8+1 {
			t.Errorf("%d bits, aligned, and one more: %d %q", n, w.Len(), w.Text())
		}
	}
}

func TestTextLeavesTheWriter(t *testing.T) {
	var w Writer
	w.Put(1, 1)
	first := w.Text()
	if first != "\x01" || w.Text() != first || w.Len() != 1 {
		t.Errorf("%q %q %d", first, w.Text(), w.Len())
	}
	w.Put(3, 2)
	if first != "\x01" || w.Text() != "\x07" || w.Len() != 3 {
		t.Errorf("%q %q %d", first, w.Text(), w.Len())
	}
}

func TestWriterRefuses(t *testing.T) {
	for _, lead := range []int{0, 3, 8, 13} {
		for _, c := range []struct {
			n     uint32
			width int
		}{
			{0, -1}, {1, -1}, {0, math.MinInt}, {0, 33}, {0xFFFFFFFF, 33}, {0, 64}, {0, math.MaxInt},
			{1, 0}, {0xFFFFFFFF, 0}, {2, 1}, {4, 2}, {256, 8}, {1 << 31, 31}, {0xFFFFFFFF, 31},
		} {
			var w Writer
			w.Put(5&lowest(lead), lead)
			before := w.Text()
			e1, e2 := w.Put(c.n, c.width), w.Turned(c.n, c.width)
			if e1 != api.ErrBound || e2 != api.ErrBound {
				t.Errorf("%X, %d: %v %v", c.n, c.width, e1, e2)
			}
			w.Put(0, 0)
			if w.Len() != lead || w.Text() != before {
				t.Errorf("%X, %d, refused: %d %q, was %d %q", c.n, c.width, w.Len(), w.Text(), lead, before)
			}
			w.Put(1, 1)
			if w.Len() != lead+1 {
				t.Errorf("%X, %d, refused, and one more: %d", c.n, c.width, w.Len())
			}
		}
	}
}

func TestWritersAreApart(t *testing.T) {
	var a, b Writer
	a.Put(0xAB, 8)
	b.Put(0xCD, 8)
	a.Put(1, 1)
	if a.Text() != "\xAB\x01" || b.Text() != "\xCD" || b.Len() != 8 {
		t.Errorf("%q %q %d", a.Text(), b.Text(), b.Len())
	}
}

// P21

func TestGet(t *testing.T) {
	for _, c := range []struct {
		s     string
		width int
		want  uint32
	}{
		{"", 0, 0},
		{"\x01", 1, 1},
		{"\xFE", 1, 0},
		{"\x06", 3, 6},
		{"\xC1", 8, 0xC1},
		{"\x34\x12", 16, 0x1234},
		{"\x00\x01", 9, 0x100},
		{"\x78\x56\x34\x12", 32, 0x12345678},
		{"\xFF\xFF\xFF\xFF", 31, 0x7FFFFFFF},
		{"\xFF\xFF\xFF\xFF", 32, 0xFFFFFFFF},
	} {
		r := NewReader(c.s)
		if r.At() != 0 || r.Left() != len(c.s)*8 {
			t.Errorf("%q: %d %d", c.s, r.At(), r.Left())
		}
		n, err := r.Get(c.width)
		if n != c.want || err != nil || r.At() != c.width || r.Left() != len(c.s)*8-c.width {
			t.Errorf("%q, %d: %X %v, at %d, left %d", c.s, c.width, n, err, r.At(), r.Left())
		}
	}
}

func TestGetGoesOn(t *testing.T) {
	s := "\xB1\x7F\x00\x93\xE4\xFF\x2A\x01\x80"
	for lead := range 17 {
		for width := range 33 {
			r := NewReader(s)
			r.Get(lead)
			n, err := r.Get(width)
			var want uint32
			for i := 0; i < width; i++ {
				want += uint32(s[(lead+i)/8]>>((lead+i)%8)&1) << i
			}
			if n != want || err != nil || r.At() != lead+width || r.Left() != len(s)*8-lead-width {
				t.Errorf("%d behind %d: %X %v, want %X", width, lead, n, err, want)
			}
		}
	}
}

func TestReaderAligns(t *testing.T) {
	for n := range 25 {
		r := NewReader("\xFF\xFF\xA5")
		r.Get(n)
		want := (n + 7) / 8 * 8
		for range 2 {
			r.Align()
			if r.At() != want || r.Left() != 24-want {
				t.Errorf("%d read: at %d, left %d", n, r.At(), r.Left())
			}
		}
		if b, err := r.Get(8); want == 16 && (b != 0xA5 || err != nil) {
			t.Errorf("%d read: %X %v behind it", n, b, err)
		}
	}
	r := NewReader("")
	r.Align()
	if r.At() != 0 || r.Left() != 0 {
		t.Errorf("of nothing: at %d, left %d", r.At(), r.Left())
	}
}

func TestReaderRefuses(t *testing.T) {
	s := "\xB1\x7F\x93\xE4\x01"
	for _, c := range []struct {
		lead, width int
		want        error
	}{
		{0, -1, api.ErrBound}, {0, math.MinInt, api.ErrBound}, {0, 33, api.ErrBound}, {0, math.MaxInt, api.ErrBound},
		{32, 9, api.ErrText}, {32, 32, api.ErrText}, {9, 32, api.ErrText},
		// What is out of bounds is told ahead of what is not there.
		{32, 33, api.ErrBound}, {32, -1, api.ErrBound},
	} {
		r := NewReader(s)
		r.Get(c.lead)
		n, err := r.Get(c.width)
		if n != 0 || err != c.want || r.At() != c.lead || r.Left() != 40-c.lead {
			t.Errorf("%d behind %d: %X %v, at %d, left %d", c.width, c.lead, n, err, r.At(), r.Left())
		}
		rest := min(32, 40-c.lead)
		if _, err := r.Get(rest); err != nil || r.At() != c.lead+rest {
			t.Errorf("%d behind %d, refused, then %d: %v, at %d", c.width, c.lead, rest, err, r.At())
		}
	}
}

func TestAtTheEnd(t *testing.T) {
	for _, s := range []string{"", "\xFF"} {
		r := NewReader(s)
		r.Get(len(s) * 8)
		if n, err := r.Get(0); n != 0 || err != nil {
			t.Errorf("%q, none more: %d %v", s, n, err)
		}
		for _, width := range []int{1, 8, 32} {
			if n, err := r.Get(width); n != 0 || err != api.ErrText {
				t.Errorf("%q, %d more: %d %v", s, width, n, err)
			}
		}
		if n, err := r.Get(33); n != 0 || err != api.ErrBound {
			t.Errorf("%q, 33 more: %d %v", s, n, err)
		}
		if r.At() != len(s)*8 || r.Left() != 0 {
			t.Errorf("%q: at %d, left %d", s, r.At(), r.Left())
		}
	}
}

func TestReadersAreApart(t *testing.T) {
	a, b := NewReader("\x01\x02"), NewReader("\x01\x02")
	a.Get(9)
	if n, err := b.Get(16); n != 0x0201 || err != nil || a.At() != 9 {
		t.Errorf("%X %v, at %d", n, err, a.At())
	}
}

// P22

type step struct {
	n     uint32
	width int
	way   uint32
}

func backwards(n uint32, width int) (out uint32) {
	for i := 0; i < width; i++ {
		out = out<<1 | n>>i&1
	}
	return out
}

func TestWhatIsPutIsGot(t *testing.T) {
	m := mixer(2)
	for round := range 300 {
		var w Writer
		var steps []step
		for range int(m.next() % 60) {
			s := step{width: int(m.next() % 33), way: m.next() % 5}
			s.n = m.sized(s.width)
			steps = append(steps, s)
			switch s.way {
			case 0:
				w.Align()
			case 1:
				w.Turned(s.n, s.width)
			default:
				w.Put(s.n, s.width)
			}
		}
		r := NewReader(w.Text())
		for i, s := range steps {
			if s.way == 0 {
				r.Align()
				continue
			}
			want := s.n
			if s.way == 1 {
				want = backwards(s.n, s.width)
			}
			if n, err := r.Get(s.width); n != want || err != nil {
				t.Fatalf("round %d, step %d: %X %v, want %X", round, i, n, err, want)
			}
		}
		if r.At() != w.Len() || r.Left() != len(w.Text())*8-w.Len() {
			t.Fatalf("round %d: at %d of %d, left %d", round, r.At(), w.Len(), r.Left())
		}
		if n, err := r.Get(r.Left()); n != 0 || err != nil {
			t.Fatalf("round %d: %X %v behind the last one", round, n, err)
		}
	}
}

func TestLongTextsGoThrough(t *testing.T) {
	s := strings.Repeat("layered pictures, \x00\xFF", api.MaxBytes/20)
	r := NewReader(s)
	var w Writer
	for i := 0; r.Left() > 0; i++ {
		width := min(i%33, r.Left())
		n, e1 := r.Get(width)
		if e2 := w.Put(n, width); e1 != nil || e2 != nil {
			t.Fatal(e1, e2)
		}
	}
	if w.Text() != s || w.Len() != r.At() {
		t.Errorf("%d bits are written of %d", w.Len(), r.At())
	}
}
