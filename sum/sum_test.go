package sum

import (
	"errors"
	"hash/adler32"
	"hash/crc32"
	"math"
	"strings"
	"testing"

	"layercake/api"
)

// slowCRC is P10 word by word, without a table.
func slowCRC(s string) uint32 {
	c := uint32(0xFFFFFFFF)
	for _, b := range []byte(s) {
		c ^= uint32(b)
		for range 8 {
			out := c & 1
			c >>= 1
			if out == 1 {
				c ^= 0xEDB88320
			}
		}
	}
	return ^c
}

// slowAdler is P11 word by word.
func slowAdler(s string) uint32 {
	a, b := 1, 0
	for _, x := range []byte(s) {
		a += int(x)
		for a >= 65521 {
			a -= 65521
		}
		b += a
		for b >= 65521 {
			b -= 65521
		}
	}
	return uint32(b*65536 + a)
}

// mixed bytes, the same ones at each run.
func mixed(n int, seed uint32) string {
	var w strings.Builder
	for range n {
		seed = seed*1664525 + 1013904223
		w.WriteByte(byte(seed >> 24))
	}
	return w.String()
}

func texts() []string {
	l := []string{"", "a", "abc", "123456789", "\x00", "\x00\x00\x00\x00", "\xff", "\xff\xff\xff\xff", "layercake", "\xc3\xa9 \xe2\x82\xac", "\xc3\x28\x80"}
	for b := range 256 {
		l = append(l, string([]byte{byte(b)}))
	}
	for n := range 40 {
		l = append(l, mixed(n, uint32(n)))
	}
	for _, n := range []int{255, 256, 257, 5551, 5552, 5553, 65520, 65521, 65522, 131042, api.MaxBytes} {
		l = append(l, mixed(n, uint32(n)), strings.Repeat("\xff", n), strings.Repeat("\x00", n))
	}
	return l
}

// P10

func TestCRCOfKnownTexts(t *testing.T) {
	for s, want := range map[string]uint32{"": 0, "123456789": 0xCBF43926, "abc": 0x352441C2, "a": 0xE8B7BE43, "\x00": 0xD202EF8D, "\xff": 0xFF000000, "\xff\xff\xff\xff": 0xFFFFFFFF} {
		if got := CRC(s); got != want {
			t.Errorf("CRC(%q) = %08X, want %08X", s, got, want)
		}
	}
}

func TestCRCIsAsTold(t *testing.T) {
	for _, s := range texts() {
		if got := CRC(s); got != slowCRC(s) || got != crc32.ChecksumIEEE([]byte(s)) {
			t.Errorf("CRC of %d bytes, %.20q: %08X, want %08X", len(s), s, got, slowCRC(s))
		}
	}
}

func TestMoreCRCGoesOn(t *testing.T) {
	s := mixed(300, 7)
	for i := range len(s) + 1 {
		if got := MoreCRC(CRC(s[:i]), s[i:]); got != slowCRC(s) {
			t.Errorf("cut at %d: %08X", i, got)
		}
	}
	for _, c := range []uint32{0, 1, 0x80000000, 0xEDB88320, 0xFFFFFFFF} {
		if got := MoreCRC(c, ""); got != c {
			t.Errorf("nothing behind %08X: %08X", c, got)
		}
		if got, want := MoreCRC(c, "cake"), crc32.Update(c, crc32.IEEETable, []byte("cake")); got != want {
			t.Errorf("cake behind %08X: %08X, want %08X", c, got, want)
		}
	}
}

// P11

func TestAdlerOfKnownTexts(t *testing.T) {
	for s, want := range map[string]uint32{"": 1, "123456789": 0x091E01DE, "abc": 0x024D0127, "a": 0x00620062, "\x00": 0x00010001, "\xff": 0x01000100} {
		if got := Adler(s); got != want {
			t.Errorf("Adler(%q) = %08X, want %08X", s, got, want)
		}
	}
}

func TestAdlerIsAsTold(t *testing.T) {
	for _, s := range texts() {
		if got := Adler(s); got != slowAdler(s) || got != adler32.Checksum([]byte(s)) {
			t.Errorf("Adler of %d bytes, %.20q: %08X, want %08X", len(s), s, got, slowAdler(s))
		}
	}
}

func TestMoreAdlerGoesOn(t *testing.T) {
	s := strings.Repeat("\xff", 200) + mixed(300, 9)
	for i := range len(s) + 1 {
		if got := MoreAdler(Adler(s[:i]), s[i:]); got != slowAdler(s) {
			t.Errorf("cut at %d: %08X", i, got)
		}
	}
}

func TestMoreAdlerAtThePrime(t *testing.T) {
	for _, c := range []struct {
		a    uint32
		s    string
		want uint32
	}{
		{0, "", 0},
		{0, "\x01", 0x00010001},
		{65520<<16 | 65520, "", 65520<<16 | 65520},
		{65520<<16 | 65520, "\x00", 65519<<16 | 65520},
		{65520<<16 | 65520, "\x01", 65520 << 16},
		{65520<<16 | 65520, "\x02", 1},
		{65521, "", 0},
		{65521 << 16, "", 0},
		{65522<<16 | 65523, "", 1<<16 | 2},
		{0xFFFF, "", 14},
		{0xFFFF0000, "", 14 << 16},
		{0xFFFFFFFF, "", 14<<16 | 14},
		{0xFFFFFFFF, "\x03", 31<<16 | 17},
	} {
		if got := MoreAdler(c.a, c.s); got != c.want {
			t.Errorf("MoreAdler(%08X, %q) = %08X, want %08X", c.a, c.s, got, c.want)
		}
	}
}

// P12

func TestJoinsOfTexts(t *testing.T) {
	for _, first := range texts() {
		for _, second := range []string{"", "\x00", "56789", mixed(1000, 3), strings.Repeat("\xff", 65521), strings.Repeat("\x00", 70000)} {
			c, err := JoinCRC(CRC(first), CRC(second), len(second))
			if want := MoreCRC(CRC(first), second); c != want || err != nil {
				t.Errorf("JoinCRC of %d and %d bytes: %08X %v, want %08X", len(first), len(second), c, err, want)
			}
			a, err := JoinAdler(Adler(first), Adler(second), len(second))
			if want := MoreAdler(Adler(first), second); a != want || err != nil {
				t.Errorf("JoinAdler of %d and %d bytes: %08X %v, want %08X", len(first), len(second), a, err, want)
			}
		}
	}
}

// zeroMap is what 2^k bytes of 0 make of each bit of a sum: found by putting it behind itself, not by polynomials.
func zeroMap(k int) [32]uint32 {
	var m [32]uint32
	for i := range m {
		m[i] = MoreCRC(1<<i, "\x00") ^ MoreCRC(0, "\x00")
	}
	for range k {
		var twice [32]uint32
		for i := range twice {
			twice[i] = mapped(m, m[i])
		}
		m = twice
	}
	return m
}

func mapped(m [32]uint32, c uint32) (out uint32) {
	for i := range m {
		if c>>i&1 == 1 {
			out ^= m[i]
		}
	}
	return out
}

func TestJoinCRCOfGreatLengths(t *testing.T) {
	for k := range 41 {
		m := zeroMap(k)
		for _, a := range []uint32{0, 1, 0x80000000, 0xCBF43926, 0xFFFFFFFF} {
			got, err := JoinCRC(a, 0x12345678, 1<<k)
			if want := mapped(m, a) ^ 0x12345678; got != want || err != nil {
				t.Errorf("2^%d bytes behind %08X: %08X %v, want %08X", k, a, got, err, want)
			}
		}
	}
	got, err := JoinCRC(0xCBF43926, 0, 1<<40-1)
	want := uint32(0xCBF43926)
	for k := range 40 {
		want = mapped(zeroMap(k), want)
	}
	if got != want || err != nil {
		t.Errorf("2^40-1 bytes: %08X %v, want %08X", got, err, want)
	}
}

func TestJoinAdlerOfGreatLengths(t *testing.T) {
	for _, n := range []int{0, 1, 2, 65520, 65521, 65522, 1 << 20, 1<<32 - 1, 1 << 32, 1<<40 - 1, 1 << 40} {
		// A text of n zeros: its A stays 1, its B is n.
		zeros := uint32(n%65521)<<16 | 1
		for _, a := range []uint32{1, 0, 5, 65520, 65520<<16 | 65520, 0x091E01DE} {
			got, err := JoinAdler(a, zeros, n)
			low, high := int(a&0xFFFF), int(a>>16)
			want := uint32((high+n%65521*low)%65521)<<16 | uint32(low)
			if got != want || err != nil {
				t.Errorf("%d zeros behind %08X: %08X %v, want %08X", n, a, got, err, want)
			}
		}
	}
}

func TestJoinAdlerOfNumbersThatNoTextHas(t *testing.T) {
	numbers := []uint32{0xFFFFFFFF, 0xFFFF0000, 0x0000FFFF, 65521, 65521 << 16, 65521<<16 | 65521, 65522<<16 | 3, 4<<16 | 65523, 0, 1, 65520<<16 | 65520}
	for _, a := range numbers {
		for _, b := range numbers {
			for _, n := range []int{0, 1, 65521, 1 << 40} {
				got, err := JoinAdler(a, b, n)
				want, _ := JoinAdler(MoreAdler(a, ""), MoreAdler(b, ""), n)
				if got != want || err != nil || got&0xFFFF >= 65521 || got>>16 >= 65521 {
					t.Errorf("JoinAdler(%08X, %08X, %d) = %08X %v, want %08X", a, b, n, got, err, want)
				}
			}
		}
	}
	for _, c := range []struct {
		a, b uint32
		n    int
		want uint32
	}{
		{0xFFFFFFFF, 1, 0, 14<<16 | 14},
		{1, 0xFFFFFFFF, 0, 14<<16 | 14},
		{0xFFFFFFFF, 0xFFFFFFFF, 2, 54<<16 | 27},
		{0, 0, 1, 65520<<16 | 65520},
		{0, 0, 0, 65520},
	} {
		if got, err := JoinAdler(c.a, c.b, c.n); got != c.want || err != nil {
			t.Errorf("JoinAdler(%08X, %08X, %d) = %08X %v, want %08X", c.a, c.b, c.n, got, err, c.want)
		}
	}
}

func TestJoinsOutOfBounds(t *testing.T) {
	for _, n := range []int{-1, -2, math.MinInt, 1<<40 + 1, 1<<40 + 65521, math.MaxInt} {
		c, e1 := JoinCRC(0xCBF43926, 2, n)
		a, e2 := JoinAdler(0x091E01DE, 2, n)
		if c != 0 || e1 != api.ErrBound {
			t.Errorf("JoinCRC, n %d: %08X %v", n, c, e1)
		}
		if a != 0 || e2 != api.ErrBound {
			t.Errorf("JoinAdler, n %d: %08X %v", n, a, e2)
		}
		var f *api.Fault
		if errors.As(e1, &f) || errors.As(e2, &f) {
			t.Errorf("n %d: a place is told where the chapter tells none", n)
		}
	}
}

// P13

func TestSumsAreThoseOfTheirParts(t *testing.T) {
	s := mixed(2000, 11) + strings.Repeat("\xff", 2000) + strings.Repeat("\x00", 500)
	for _, step := range []int{1, 2, 7, 64, 999, 4500, 9999} {
		c, a := uint32(0), uint32(1)
		for at := 0; at < len(s); at += step {
			part := s[at:min(at+step, len(s))]
			c, _ = JoinCRC(c, CRC(part), len(part))
			a, _ = JoinAdler(a, Adler(part), len(part))
		}
		if c != CRC(s) || a != Adler(s) {
			t.Errorf("parts of %d: %08X %08X, want %08X %08X", step, c, a, CRC(s), Adler(s))
		}
	}
}

func TestJoinsInAnyOrder(t *testing.T) {
	x, y, z := mixed(100, 1), mixed(70000, 2), mixed(31, 3)
	left, _ := JoinCRC(CRC(x), CRC(y), len(y))
	left, _ = JoinCRC(left, CRC(z), len(z))
	right, _ := JoinCRC(CRC(y), CRC(z), len(z))
	right, _ = JoinCRC(CRC(x), right, len(y)+len(z))
	if left != right || left != CRC(x+y+z) {
		t.Errorf("CRC: %08X %08X, want %08X", left, right, CRC(x+y+z))
	}
	left, _ = JoinAdler(Adler(x), Adler(y), len(y))
	left, _ = JoinAdler(left, Adler(z), len(z))
	right, _ = JoinAdler(Adler(y), Adler(z), len(z))
	right, _ = JoinAdler(Adler(x), right, len(y)+len(z))
	if left != right || left != Adler(x+y+z) {
		t.Errorf("Adler: %08X %08X, want %08X", left, right, Adler(x+y+z))
	}
}

// turned: the bits of burst, turned from bit at on; each byte's lowest bit is its first, as CRC takes them.
func turned(s string, at int, burst uint32) string {
	l := []byte(s)
	for i := range 32 {
		if burst>>i&1 == 1 {
			l[(at+i)/8] ^= 1 << ((at + i) % 8)
		}
	}
	return string(l)
}

func TestTurnedBitsMakeAnotherCRC(t *testing.T) {
	for _, s := range []string{mixed(24, 5), strings.Repeat("\x00", 24), "layered pictures, packed"} {
		seed := uint32(1)
		for at := range len(s)*8 - 31 {
			bursts := []uint32{1, 1 << 31, 1<<31 | 1, 0xFFFFFFFF, 0xEDB88320}
			for range 50 {
				seed = seed*1664525 + 1013904223
				bursts = append(bursts, seed|1)
			}
			for _, b := range bursts {
				if CRC(turned(s, at, b)) == CRC(s) {
					t.Errorf("%q: %08X turned at bit %d is not seen", s, b, at)
				}
			}
		}
	}
}

// As CRC is joined by exclusive or alone, all bursts from one place are seen if no set of single turns comes to nothing.
func TestEveryBurstIsSeen(t *testing.T) {
	s := mixed(40, 6)
	for at := range len(s)*8 - 31 {
		var highest [32]uint32
		for i := range 32 {
			c := CRC(turned(s, at, 1<<i)) ^ CRC(s)
			for bit := 31; bit >= 0 && c != 0; bit-- {
				if c>>bit&1 == 0 {
					continue
				}
				if highest[bit] == 0 {
					highest[bit] = c
					break
				}
				c ^= highest[bit]
			}
			if c == 0 {
				t.Errorf("from bit %d on, a burst of %d bits is not seen", at, i+1)
			}
		}
	}
}
