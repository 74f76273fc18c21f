package store

import (
	"slices"
	"strconv"
	"strings"
	"testing"
	"time"

	"layercake/api"
	"layercake/disk"
	"layercake/sum"
)

// mixer makes mixed numbers, the same ones at each run.
type mixer uint64

func (m *mixer) below(n int) int {
	*m = *m*6364136223846793005 + 1442695040888963407
	return int(*m>>33) % n
}

func (m *mixer) text(n int) string {
	b := make([]byte, n)
	for i := range b {
		b[i] = byte(m.below(256))
	}
	return string(b)
}

// blank: a disk of so many sectors.
func blank(t *testing.T, sectors int) *disk.Disk {
	t.Helper()
	d, err := disk.New(sectors)
	if err != nil {
		t.Fatal(err)
	}
	return d
}

// formatted: a disk of so many sectors, and its store.
func formatted(t *testing.T, sectors int) (*disk.Disk, *Store) {
	t.Helper()
	d := blank(t, sectors)
	s, err := Format(d)
	if err != nil || s == nil {
		t.Fatalf("%d sectors: %v, %v", sectors, s, err)
	}
	return d, s
}

// opened: the store that must be there.
func opened(t *testing.T, d *disk.Disk) *Store {
	t.Helper()
	s, err := Open(d)
	if err != nil || s == nil {
		t.Fatalf("open: %v, %v", s, err)
	}
	return s
}

// shown: all texts of a store, with their names.
func shown(t *testing.T, s *Store) string {
	t.Helper()
	var b strings.Builder
	for _, n := range s.Names() {
		text, err := s.Get(n)
		if err != nil {
			t.Fatalf("%q: %v", n, err)
		}
		b.WriteString(n + "=" + text + "\n")
	}
	return b.String()
}

// there: all texts of the store that must be there.
func there(t *testing.T, d *disk.Disk) string {
	t.Helper()
	return shown(t, opened(t, d))
}

// bytesOf a disk.
func bytesOf(t *testing.T, d *disk.Disk) string {
	t.Helper()
	var b strings.Builder
	for n := range d.Sectors() {
		s, err := d.Read(n)
		if err != nil {
			t.Fatal(err)
		}
		b.WriteString(s)
	}
	return b.String()
}

// do: acts, each of which must answer no error.
func do(t *testing.T, errs ...error) {
	t.Helper()
	for i, err := range errs {
		if err != nil {
			t.Fatalf("act %d: %v", i, err)
		}
	}
}

// bits of a number, the lowest first.
func bits(n, count int) []bool {
	var l []bool
	for i := range count {
		l = append(l, n>>i&1 == 1)
	}
	return l
}

// P200

func TestFormat(t *testing.T) {
	for _, sectors := range []int{8, 9, 10, 11, 63, 64, 65, 3999, 4000} {
		d, s := formatted(t, sectors)
		if len(s.Names()) != 0 || d.Waiting() != 0 || there(t, d) != "" {
			t.Errorf("%d sectors: %q, %d wait", sectors, s.Names(), d.Waiting())
		}
		d.Crash(nil)
		if there(t, d) != "" {
			t.Errorf("%d sectors, crashed: %q", sectors, there(t, d))
		}
		do(t, s.Put("a", "1"), s.Sync())
		if there(t, d) != "a=1\n" {
			t.Errorf("%d sectors: %q", sectors, there(t, d))
		}
	}
}

func TestFormatOfSmallDisks(t *testing.T) {
	for sectors := 1; sectors < 8; sectors++ {
		for after := range 3 {
			d := blank(t, sectors)
			do(t, d.Write(0, "was"), d.Flush(), d.Write(sectors-1, "waits"))
			was := bytesOf(t, d)
			if after < 2 {
				do(t, d.Fail(after))
			}
			if s, err := Format(d); s != nil || err != api.ErrFull {
				t.Errorf("%d sectors: %v, %v", sectors, s, err)
			}
			if s, err := Open(d); s != nil || err != api.ErrText {
				t.Errorf("%d sectors: %v, %v", sectors, s, err)
			}
			if bytesOf(t, d) != was || d.Waiting() != 1 {
				t.Errorf("%d sectors: something was written", sectors)
			}
		}
	}
	for _, d := range []*disk.Disk{nil, {}} {
		if s, err := Format(d); s != nil || err != api.ErrFull {
			t.Errorf("no disk: %v, %v", s, err)
		}
		if s, err := Open(d); s != nil || err != api.ErrText {
			t.Errorf("no disk: %v, %v", s, err)
		}
	}
}

func TestFormatAgain(t *testing.T) {
	for syncs := range 6 {
		d, s := formatted(t, 30)
		do(t, s.Put("old", strings.Repeat("secret", 20)), s.Put("older", "secret"))
		for range syncs {
			do(t, s.Sync())
		}
		f, err := Format(d)
		if err != nil || len(f.Names()) != 0 {
			t.Fatal(f, err)
		}
		d.Crash(nil)
		if there(t, d) != "" || strings.Contains(bytesOf(t, d), "secret") {
			t.Errorf("%d syncs: %q is there", syncs, there(t, d))
		}
		for i := range 3 {
			do(t, f.Put("new", strconv.Itoa(i)), f.Sync())
			if there(t, d) != "new="+strconv.Itoa(i)+"\n" {
				t.Errorf("%d syncs: %q", syncs, there(t, d))
			}
		}
	}
}

// Of what was on a disk nothing is left, also of what was no store.
func TestFormatOfMixedBytes(t *testing.T) {
	m := mixer(1)
	for _, sectors := range []int{8, 9, 50, 4000} {
		d := blank(t, sectors)
		for n := range sectors {
			do(t, d.Write(n, m.text(64)))
		}
		c := d.Copy()
		do(t, c.Flush())
		for _, e := range []*disk.Disk{d, c} {
			if s, err := Open(e); s != nil || err != api.ErrText {
				t.Errorf("%d sectors: %v, %v", sectors, s, err)
			}
			_, err := Format(e)
			do(t, err)
			clean, _ := formatted(t, sectors)
			if e.Waiting() != 0 || there(t, e) != "" || bytesOf(t, e) != bytesOf(t, clean) {
				t.Errorf("%d sectors: unlike a new disk's", sectors)
			}
		}
	}
}

func TestFormatWithoutPower(t *testing.T) {
	old := "a=" + strings.Repeat("x", 100) + "\n"
	for _, hasStore := range []bool{false, true} {
		for after := 0; ; after++ {
			d := blank(t, 20)
			if hasStore {
				s, err := Format(d)
				do(t, err, s.Put("a", "0"), s.Sync(), s.Put("a", strings.Repeat("x", 100)), s.Sync())
			}
			do(t, d.Fail(after))
			s, err := Format(d)
			if err == nil {
				if d.Crash(nil); there(t, d) != "" || after < 3 {
					t.Errorf("after %d: %q", after, there(t, d))
				}
				break
			}
			if s != nil || err != api.ErrPower {
				t.Fatalf("after %d: %v, %v", after, s, err)
			}
			for kept := range 1 << d.Waiting() {
				c := d.Copy()
				c.Crash(bits(kept, d.Waiting()))
				if s, err := Open(c); err == nil {
					if got := shown(t, s); got != "" && (got != old || !hasStore) {
						t.Errorf("after %d, kept %b: %q", after, kept, got)
					}
				} else if err != api.ErrText || s != nil || hasStore {
					t.Errorf("after %d, kept %b: %v, %v", after, kept, s, err)
				}
				_, err := Format(c)
				do(t, err)
				if c.Crash(nil); there(t, c) != "" {
					t.Errorf("after %d, kept %b, formatted again: %q", after, kept, there(t, c))
				}
			}
		}
	}
}

func TestOpenNone(t *testing.T) {
	for _, sectors := range []int{1, 2, 7, 8, 9, 100, 4000} {
		d := blank(t, sectors)
		if s, err := Open(d); s != nil || err != api.ErrText {
			t.Errorf("%d sectors: %v, %v", sectors, s, err)
		}
	}
}

// What is opened is what was synced, not what was changed since; to open writes nothing, and needs no power.
func TestOpen(t *testing.T) {
	d, s := formatted(t, 60)
	do(t, s.Put("b", "2"), s.Put("a", "1"), s.Sync(), s.Put("c", "3"), s.Drop("a"), s.Put("b", "4"))
	was := bytesOf(t, d)
	do(t, d.Fail(0))
	o := opened(t, d)
	if got := shown(t, o); got != "a=1\nb=2\n" {
		t.Errorf("opened: %q", got)
	}
	if got := shown(t, s); got != "b=4\nc=3\n" {
		t.Errorf("changed: %q", got)
	}
	do(t, o.Put("d", "5"), o.Drop("b"))
	if got := shown(t, s); got != "b=4\nc=3\n" {
		t.Errorf("behind changes of the other one: %q", got)
	}
	if bytesOf(t, d) != was || d.Waiting() != 0 || there(t, d) != "a=1\nb=2\n" {
		t.Error("something was written")
	}
}

// spoilt: a disk of which one bit is another one.
func spoilt(t *testing.T, d *disk.Disk, bit int) *disk.Disk {
	t.Helper()
	c := d.Copy()
	n := bit / 8 / 64
	s, _ := c.Read(n)
	b := []byte(s)
	b[bit/8%64] ^= 1 << (bit % 8)
	do(t, c.Write(n, string(b)), c.Flush())
	return c
}

func TestOpenOfSpoiltDisks(t *testing.T) {
	d, s := formatted(t, 10)
	do(t, s.Put("one", "a text of a store"), s.Sync(), s.Put("two", strings.Repeat("y", 70)), s.Sync())
	first, second := "one=a text of a store\n", shown(t, s)
	seen := map[string]int{}
	for bit := range 10 * 64 * 8 {
		o, err := Open(spoilt(t, d, bit))
		if err != nil {
			if o != nil || err != api.ErrText {
				t.Fatalf("bit %d: %v, %v", bit, o, err)
			}
			seen["none"]++
			continue
		}
		got := shown(t, o)
		if got != first && got != second {
			t.Fatalf("bit %d: %q", bit, got)
		}
		seen[got]++
	}
	// A head's 64 bytes make the one ahead the last; its texts' bytes cannot be read.
	if packed := len(pack(s.texts)); seen[first] != 64*8 || seen["none"] != packed*8 {
		t.Errorf("%d of the first, %d of none, of %d bytes", seen[first], seen["none"], packed)
	}
}

// forged: a disk with a text, as if it had been packed.
func forged(t *testing.T, packed string, h head) *disk.Disk {
	t.Helper()
	d := blank(t, 8+2*len(packed)/64)
	for i := 0; i < len(packed); i += 64 {
		do(t, d.Write(2+i/64, packed[i:min(i+64, len(packed))]))
	}
	do(t, d.Write(0, h.sector()), d.Flush())
	return d
}

func TestOpenOfForgedDisks(t *testing.T) {
	hundred := map[string]entry{}
	for i := range 101 {
		hundred["n"+strconv.Itoa(i)] = entry{strconv.Itoa(i)}
	}
	tooMany := pack(hundred)
	delete(hundred, "n77")
	cases := []struct {
		packed string
		isGood bool
	}{
		{"", true},
		{"\x01a\x00\x00\x00", true},
		{"\x01a\x00\x00\x02xy\x01b\x00\x00\x00", true},
		{"\x0cabcdefghijkl\x00\x00\x01x", true},
		{pack(hundred), true},
		{tooMany, false},
		{"\x00", false},
		{"\x00\x00\x00\x00", false},
		{"\x01", false},
		{"\x01a", false},
		{"\x01a\x00\x00", false},
		{"\x01a\x00\x00\x01", false},
		{"\x01a\x00\x00\x03xy", false},
		{"\x01a\xff\xff\xffxy", false},
		{"\x02a", false},
		{"\xffa\x00\x00\x00", false},
		{"\x01A\x00\x00\x00", false},
		{"\x01\x00\x00\x00\x00", false},
		{"\x0dabcdefghijklm\x00\x00\x01x", false},
		{"\x01b\x00\x00\x00\x01a\x00\x00\x00", false},
		{"\x01a\x00\x00\x00\x01a\x00\x00\x00", false},
		{"\x01a\x00\x00\x00\x00", false},
	}
	for i, c := range cases {
		h := head{syncs: 1, size: uint32(len(c.packed)), sum: sum.CRC(c.packed)}
		if s, err := Open(forged(t, c.packed, h)); c.isGood != (err == nil) || !c.isGood && (s != nil || err != api.ErrText) {
			t.Errorf("%d: %v, %v", i, s, err)
		}
		h.sum++
		if s, err := Open(forged(t, c.packed, h)); s != nil || err != api.ErrText {
			t.Errorf("%d with another sum: %v, %v", i, s, err)
		}
	}
	for _, size := range []uint32{3*64 + 1, 4 * 64, 6 * 64, 1 << 20, 1<<31 - 1, 1 << 31, 1<<32 - 1} {
		if s, err := Open(forged(t, "", head{syncs: 1, size: size})); s != nil || err != api.ErrText {
			t.Errorf("%d bytes: %v, %v", size, s, err)
		}
	}
}

// P201

func TestNamesThatAreNone(t *testing.T) {
	_, s := formatted(t, 20)
	do(t, s.Put("a", "1"))
	wrong := []string{"", "A", "aB", "a b", " ", "-", "a_", "é", "ab\x00", "\xff", "ａ", "abcdefghijklm", "0123456789012", strings.Repeat("a", 1000)}
	for c := range 256 {
		if (c < 'a' || c > 'z') && (c < '0' || c > '9') {
			wrong = append(wrong, string([]byte{byte(c)}), string([]byte{'a', byte(c)}), string([]byte{byte(c), 'a'}))
		}
	}
	for _, n := range wrong {
		for _, text := range []string{"x", strings.Repeat("x", 300001)} {
			if err := s.Put(n, text); err != api.ErrName {
				t.Errorf("%q: %v", n, err)
			}
		}
		if err := s.Drop(n); err != api.ErrNone {
			t.Errorf("%q: %v", n, err)
		}
		if text, err := s.Get(n); text != "" || err != api.ErrNone {
			t.Errorf("%q: %q, %v", n, text, err)
		}
	}
	if got := shown(t, s); got != "a=1\n" {
		t.Errorf("%q", got)
	}
}

func TestNamesThatAreRight(t *testing.T) {
	d, s := formatted(t, 200)
	names := []string{"zz", "0", "9", "a", "z", "abcdefghijkl", "012345678901", "a0", "0a", "ab", "b", "10", "9a"}
	for c := byte('a'); c <= 'z'; c++ {
		names = append(names, "x"+string([]byte{c}))
	}
	for i, n := range names {
		do(t, s.Put(n, strconv.Itoa(i)))
	}
	do(t, s.Sync())
	sorted := slices.Sorted(slices.Values(names))
	for _, o := range []*Store{s, opened(t, d)} {
		got := o.Names()
		if !slices.Equal(got, sorted) {
			t.Errorf("%q, want %q", got, sorted)
		}
		got[0] = "spoilt"
		if !slices.Equal(o.Names(), sorted) {
			t.Errorf("what was answered is kept: %q", o.Names())
		}
		for i, n := range names {
			if text, err := o.Get(n); text != strconv.Itoa(i) || err != nil {
				t.Errorf("%q: %q, %v", n, text, err)
			}
		}
	}
}

func TestPutBounds(t *testing.T) {
	_, s := formatted(t, 20)
	most := strings.Repeat("x", 300000)
	for i, c := range []struct {
		text string
		want error
	}{{most, nil}, {most + "x", api.ErrBound}, {most + most, api.ErrBound}, {"", nil}, {most + "x", api.ErrBound}} {
		if err := s.Put("a", c.text); err != c.want {
			t.Errorf("%d: %v", i, err)
		}
	}
	if got := shown(t, s); got != "a=\n" {
		t.Errorf("%d bytes", len(got))
	}
	for i := range 99 {
		do(t, s.Put("n"+strconv.Itoa(i), "1"))
	}
	for range 3 {
		if err := s.Put("late", ""); err != api.ErrBound {
			t.Error(err)
		}
		if err := s.Put("Late", ""); err != api.ErrName {
			t.Error(err)
		}
		do(t, s.Put("n7", "another"), s.Put("a", "another"))
	}
	if len(s.Names()) != 100 || slices.Contains(s.Names(), "late") {
		t.Error(s.Names())
	}
	do(t, s.Drop("n7"), s.Put("late", "1"))
	if err := s.Put("n7", "1"); err != api.ErrBound {
		t.Error(err)
	}
	if len(s.Names()) != 100 {
		t.Error(len(s.Names()))
	}
}

func TestDropAndGet(t *testing.T) {
	d, s := formatted(t, 20)
	none := func(name string) {
		t.Helper()
		if err := s.Drop(name); err != api.ErrNone {
			t.Errorf("drop %q: %v", name, err)
		}
		if text, err := s.Get(name); text != "" || err != api.ErrNone {
			t.Errorf("get %q: %q, %v", name, text, err)
		}
	}
	none("a")
	do(t, s.Put("a", "1"), s.Put("a", "2"), s.Put("b", ""))
	none("c")
	if text, err := s.Get("b"); text != "" || err != nil {
		t.Errorf("an empty one: %q, %v", text, err)
	}
	do(t, s.Sync(), s.Drop("a"))
	none("a")
	if got := there(t, d); got != "a=2\nb=\n" {
		t.Errorf("ahead of the sync: %q", got)
	}
	do(t, s.Sync())
	none("a")
	if got := there(t, d); got != "b=\n" {
		t.Errorf("behind the sync: %q", got)
	}
	do(t, s.Put("a", "3"), s.Drop("a"), s.Drop("b"), s.Sync())
	if got := there(t, d); got != "" {
		t.Errorf("all dropped: %q", got)
	}
}

// Nothing is written but by Sync; so nothing else needs power.
func TestNothingIsWritten(t *testing.T) {
	d, s := formatted(t, 20)
	do(t, s.Put("a", "1"), s.Sync(), d.Fail(0))
	was := bytesOf(t, d)
	do(t, s.Put("b", "2"), s.Put("a", "3"), s.Drop("a"), s.Put("c", strings.Repeat("x", 300000)), s.Drop("c"))
	s.Put("", "")
	s.Drop("z")
	s.Get("z")
	if got := shown(t, s); got != "b=2\n" {
		t.Errorf("%q", got)
	}
	if bytesOf(t, d) != was || d.Waiting() != 0 || there(t, d) != "a=1\n" {
		t.Error("something was written")
	}
}

// P202

func TestSyncCounts(t *testing.T) {
	d, s := formatted(t, 100)
	m := mixer(2)
	for i := range 60 {
		n := string([]byte{byte('a' + m.below(4))})
		if s.Drop(n) != nil {
			do(t, s.Put(n, m.text(m.below(300))))
		}
		do(t, s.Sync())
		if d.Waiting() != 0 {
			t.Errorf("sync %d: %d wait", i, d.Waiting())
		}
		c := d.Copy()
		c.Crash(nil)
		if got := there(t, c); got != shown(t, s) {
			t.Fatalf("sync %d: %q, want %q", i, got, shown(t, s))
		}
	}
}

func TestSyncWithoutChanges(t *testing.T) {
	d, s := formatted(t, 20)
	do(t, s.Put("a", "1"))
	for range 5 {
		do(t, s.Sync())
		if d.Crash(nil); there(t, d) != "a=1\n" {
			t.Errorf("%q", there(t, d))
		}
	}
	do(t, d.Fail(0))
	if err := s.Sync(); err != api.ErrPower {
		t.Error(err)
	}
	if d.Crash(nil); there(t, d) != "a=1\n" {
		t.Errorf("%q", there(t, d))
	}
}

// fill a store with so many texts that need just so much room, as the chapter counts it; false if so many need more.
func fill(t *testing.T, s *Store, m *mixer, count, need int) bool {
	t.Helper()
	bytes := need - 64 - 32*count
	if bytes < 0 {
		return false
	}
	for i := range count {
		part := bytes
		if i < count-1 {
			part = m.below(bytes/(count-i) + 1)
		}
		bytes -= part
		do(t, s.Put("name"+strconv.Itoa(10000000+i), m.text(part)))
	}
	return true
}

// There is room where the texts need a third of the disk, to the byte.
func TestRoom(t *testing.T) {
	m := mixer(3)
	for sectors := 8; sectors <= 4000; sectors += 1 + sectors/40 {
		for _, count := range []int{0, 1, 2, 3, 10, 50, 99, 100} {
			d, s := formatted(t, sectors)
			if !fill(t, s, &m, count, sectors*64/3) {
				continue
			}
			for range 2 { // one for each half
				if err := s.Sync(); err != nil {
					t.Fatalf("%d sectors, %d texts: %v", sectors, count, err)
				}
				if d.Crash(nil); there(t, d) != shown(t, s) {
					t.Fatalf("%d sectors, %d texts: others are there", sectors, count)
				}
			}
		}
	}
}

// Where the texts would not go onto the disk, there can be no room.
func TestFull(t *testing.T) {
	for _, sectors := range []int{8, 9, 60, 4000} {
		d, s := formatted(t, sectors)
		do(t, s.Put("a", "1"), s.Put("b", "2"), s.Sync(), s.Drop("b"))
		was := bytesOf(t, d)
		do(t, s.Put("big", strings.Repeat("x", sectors*64)))
		for range 3 {
			if err := s.Sync(); err != api.ErrFull {
				t.Errorf("%d sectors: %v", sectors, err)
			}
			if bytesOf(t, d) != was || d.Waiting() != 0 || there(t, d) != "a=1\nb=2\n" {
				t.Errorf("%d sectors: something was done", sectors)
			}
			if got, err := s.Get("big"); len(got) != sectors*64 || err != nil {
				t.Errorf("%d sectors: %d bytes, %v", sectors, len(got), err)
			}
		}
		do(t, s.Put("c", "3"), s.Drop("big"), s.Sync())
		if d.Crash(nil); there(t, d) != "a=1\nc=3\n" {
			t.Errorf("%d sectors: %q", sectors, there(t, d))
		}
	}
}

// To the byte: a half is full, and one more byte has no room.
func TestFullToTheByte(t *testing.T) {
	for sectors := 8; sectors < 40; sectors++ {
		room := (sectors - 2) / 2 * 64
		d, s := formatted(t, sectors)
		do(t, s.Put("a", strings.Repeat("x", room-5)), s.Sync(), s.Put("a", strings.Repeat("y", room-5)), s.Sync())
		was := there(t, d)
		do(t, s.Put("a", strings.Repeat("z", room-4)))
		if err := s.Sync(); err != api.ErrFull {
			t.Errorf("%d sectors: %v", sectors, err)
		}
		if there(t, d) != was || was != "a="+strings.Repeat("y", room-5)+"\n" {
			t.Errorf("%d sectors: %q", sectors, there(t, d))
		}
	}
}

func TestManyFullTexts(t *testing.T) {
	d, s := formatted(t, 4000)
	for i := range 100 {
		do(t, s.Put("n"+strconv.Itoa(i), strings.Repeat("x", 300000)))
	}
	if err := s.Sync(); err != api.ErrFull {
		t.Error(err)
	}
	if d.Waiting() != 0 || there(t, d) != "" {
		t.Error("something was done")
	}
}

func TestBehindPower(t *testing.T) {
	for after := 0; ; after++ {
		d, s := formatted(t, 20)
		do(t, s.Put("a", "1"), s.Sync(), s.Put("b", strings.Repeat("x", 100)), s.Drop("a"), d.Fail(after))
		err := s.Sync()
		if err == nil {
			break
		}
		for i := range 3 {
			for k, err := range []error{err, s.Sync(), s.Put("c", "x"), s.Put("b", "x"), s.Put("", "x"), s.Put("c", strings.Repeat("x", 300001)), s.Drop("b"), s.Drop("z")} {
				if err != api.ErrPower {
					t.Errorf("after %d: %d: %v", after, k, err)
				}
			}
			if got := shown(t, s); got != "b="+strings.Repeat("x", 100)+"\n" {
				t.Errorf("after %d: %q", after, got)
			}
			if text, err := s.Get("a"); text != "" || err != api.ErrNone {
				t.Errorf("after %d: %q, %v", after, text, err)
			}
			if i == 0 {
				d.Crash(nil)
			}
			if i == 1 {
				o := opened(t, d)
				if shown(t, o) != "a=1\n" {
					t.Errorf("after %d: %q", after, shown(t, o))
				}
				do(t, o.Put("c", "3"), o.Sync())
			}
		}
		if got := there(t, d); got != "a=1\nc=3\n" {
			t.Errorf("after %d: %q", after, got)
		}
	}
}

// A store that was opened ahead of another one's sync writes over neither the texts nor the head that count.
func TestStoresOfOneDisk(t *testing.T) {
	d, first := formatted(t, 20)
	do(t, first.Put("a", "1"), first.Sync())
	second := opened(t, d)
	do(t, second.Put("b", "2"), second.Sync(), first.Put("c", strings.Repeat("x", 150)))
	for after := 0; ; after++ {
		c := d.Copy()
		o := &Store{disk: c, texts: first.texts}
		do(t, c.Fail(after))
		err := o.Sync()
		for kept := range 1 << c.Waiting() {
			e := c.Copy()
			e.Crash(bits(kept, c.Waiting()))
			if got := there(t, e); got != shown(t, first) && (got != "a=1\nb=2\n" || err == nil) {
				t.Errorf("after %d, kept %b: %q, %v", after, kept, got, err)
			}
		}
		if err == nil {
			break
		}
	}
	for range 4 {
		do(t, first.Sync())
		if there(t, d) != shown(t, first) {
			t.Errorf("the first one: %q", there(t, d))
		}
		do(t, second.Sync(), second.Sync())
		if there(t, d) != shown(t, second) {
			t.Errorf("the second one: %q", there(t, d))
		}
	}
}

// Syncs are counted around.
func TestManySyncs(t *testing.T) {
	for _, syncs := range []uint32{0, 1<<31 - 3, 1<<32 - 3} {
		for half := range 2 {
			d := blank(t, 8)
			do(t, d.Write(half, head{syncs: syncs}.sector()), d.Flush())
			s := opened(t, d)
			for i := range 8 {
				do(t, s.Put("a", strconv.Itoa(i)), s.Sync())
				if got := there(t, d); got != "a="+strconv.Itoa(i)+"\n" {
					t.Errorf("%d syncs and %d: %q", syncs, i, got)
				}
			}
		}
	}
}

// P203

// change a store, otherwise at each depth.
func change(t *testing.T, s *Store, depth int) {
	t.Helper()
	do(t, s.Put("a", strings.Repeat(string([]byte{byte('a' + depth)}), 45*depth)))
	if s.Drop("b") != nil {
		do(t, s.Put("b", strconv.Itoa(depth)))
	}
}

// walk: the power goes at each act of a sync, each part of what waits is kept; and so on from what is there then.
func walk(t *testing.T, d *disk.Disk, was string, depth int) {
	t.Helper()
	if depth == 0 {
		return
	}
	for after := 0; ; after++ {
		c := d.Copy()
		s := opened(t, c)
		change(t, s, depth)
		now := shown(t, s)
		do(t, c.Fail(after))
		err := s.Sync()
		if err == nil {
			if got := there(t, c); got != now {
				t.Fatalf("depth %d: %q, want %q", depth, got, now)
			}
			for kept := range 4 {
				e := c.Copy()
				e.Crash(bits(kept, 2))
				if got := there(t, e); got != now {
					t.Fatalf("depth %d, crashed: %q, want %q", depth, got, now)
				}
			}
			c.Crash(nil)
			walk(t, c, now, depth-1)
			return
		}
		if err != api.ErrPower {
			t.Fatalf("depth %d, after %d: %v", depth, after, err)
		}
		for kept := range 1 << c.Waiting() {
			e := c.Copy()
			e.Crash(bits(kept, c.Waiting()))
			got := there(t, e)
			if got != was && got != now {
				t.Fatalf("depth %d, after %d, kept %b: %q, want %q or %q", depth, after, kept, got, was, now)
			}
			walk(t, e, got, depth-1)
		}
		walkOn(t, c, []string{was, now}, depth)
	}
}

// walkOn: the power comes back, and what waits still waits; then it goes again.
func walkOn(t *testing.T, d *disk.Disk, may []string, depth int) {
	t.Helper()
	for after := 0; ; after++ {
		c := d.Copy()
		do(t, c.Fail(after))
		s := opened(t, c)
		if got := shown(t, s); !slices.Contains(may, got) {
			t.Fatalf("depth %d: %q, want one of %q", depth, got, may)
		}
		do(t, s.Put("third", strings.Repeat("3", 30*(depth%2))))
		now := shown(t, s)
		err := s.Sync()
		for kept := range 1 << c.Waiting() {
			e := c.Copy()
			e.Crash(bits(kept, c.Waiting()))
			if got := there(t, e); got != now && (err == nil || !slices.Contains(may, got)) {
				t.Fatalf("depth %d, after %d, kept %b: %q, want one of %q, or %q", depth, after, kept, got, may, now)
			}
		}
		if err == nil {
			return
		}
	}
}

func TestPowerGoesAnywhere(t *testing.T) {
	for _, sectors := range []int{8, 9, 11} {
		d, _ := formatted(t, sectors)
		walk(t, d, "", 3)
	}
}

// P200 to P203, against the slow way

// world: a disk with a store, and what may be there.
type world struct {
	d     *disk.Disk
	s     *Store
	other *slow
	may   []*slow // what may be opened
}

// step does a mixed act.
func (w *world) step(t *testing.T, m *mixer) {
	t.Helper()
	name := []string{"a", "b", "c", "d1", "e2", "", "F", "abcdefghijklm"}[min(m.below(20)/2, 7)]
	switch k := m.below(20); {
	case k < 8:
		text := m.text(m.below(1 + m.below(400)))
		same(t, "put", w.s.Put(name, text), w.other.put(name, text))
	case k < 11:
		same(t, "drop", w.s.Drop(name), w.other.drop(name))
	case k < 15:
		w.sync(t)
	case k < 17:
		w.d.Fail(m.below(12))
	case k < 19:
		w.crash(t, m)
	default:
		w.d.Fail(1000)
		w.open(t)
	}
	if got, want := shown(t, w.s), w.other.shown(); got != want {
		t.Fatalf("%q, want %q", got, want)
	}
}

func same(t *testing.T, what string, err, want error) {
	t.Helper()
	if err != want {
		t.Fatalf("%s: %v, want %v", what, err, want)
	}
}

func (w *world) sync(t *testing.T) {
	t.Helper()
	was, waiting := bytesOf(t, w.d), w.d.Waiting()
	err := w.s.Sync()
	switch {
	case w.other.isDark:
		same(t, "sync", err, api.ErrPower)
	case err == nil:
		w.may = []*slow{w.other.copied()}
	case err == api.ErrFull:
		if 3*w.other.need() <= 64*w.d.Sectors() || bytesOf(t, w.d) != was || w.d.Waiting() != waiting {
			t.Fatal("there is room, or something was done")
		}
	default:
		same(t, "sync", err, api.ErrPower)
		w.may = append(w.may, w.other.copied())
		w.other.isDark = true
	}
}

func (w *world) crash(t *testing.T, m *mixer) {
	t.Helper()
	w.d.Crash(bits(m.below(1<<20), m.below(20)))
	w.open(t)
	w.may = []*slow{w.other.copied()}
}

func (w *world) open(t *testing.T) {
	t.Helper()
	w.s = opened(t, w.d)
	got := shown(t, w.s)
	for _, o := range w.may {
		if o.shown() == got {
			w.other = o.copied()
			return
		}
	}
	t.Fatalf("%q is there", got)
}

func TestAgainstSlow(t *testing.T) {
	m := mixer(5)
	for range 300 {
		d, s := formatted(t, 8+m.below(40))
		w := &world{d: d, s: s, other: &slow{}, may: []*slow{{}}}
		for range 60 {
			w.step(t, &m)
		}
	}
}

// P1, P2

func TestFullSize(t *testing.T) {
	m := mixer(6)
	d, s := formatted(t, 4000)
	if !fill(t, s, &m, 100, 4000*64/3) {
		t.Fatal("no room")
	}
	start := time.Now()
	for range 10 {
		do(t, s.Sync())
		s = opened(t, d)
	}
	if took := time.Since(start); took > 5*time.Second {
		t.Error(took)
	}
}

// The same acts make the same disk, in whatever order a map is gone through.
func TestSameDisk(t *testing.T) {
	made := func() string {
		d, s := formatted(t, 100)
		m := mixer(7)
		for range 40 {
			do(t, s.Put("n"+strconv.Itoa(m.below(30)), m.text(m.below(20))), s.Sync())
		}
		return bytesOf(t, d)
	}
	first := made()
	for range 5 {
		if made() != first {
			t.Fatal("another disk")
		}
	}
}

// The bytes in which a store lies.
func TestLayout(t *testing.T) {
	d, s := formatted(t, 8)
	do(t, s.Put("b", "2"), s.Put("a", ""), s.Sync())
	packed := "\x01a\x00\x00\x00\x01b\x00\x00\x012"
	want := []string{
		"cake\x00\x00\x00\x01" + strings.Repeat("\x00", 8),
		"cake\x00\x00\x00\x02\x00\x00\x00\x0b" + told(int(sum.CRC(packed)), 4),
		"", "", "",
		packed, "", "",
	}
	for n, w := range want {
		if n < 2 {
			w += told(int(sum.CRC(w)), 4)
		}
		if got, _ := d.Read(n); got != w+strings.Repeat("\x00", 64-len(w)) {
			t.Errorf("sector %d: %q, want %q", n, got, w)
		}
	}
}
