package disk

import (
	"math"
	"slices"
	"strconv"
	"strings"
	"testing"

	"layercake/api"
)

// mixer makes mixed numbers, the same ones at each run.
type mixer uint64

func (m *mixer) below(n int) int {
	*m = *m*6364136223846793005 + 1442695040888963407
	return int(*m>>33) % n
}

func (m *mixer) text(n int) string {
	b := make([]byte, n)
	for i := range b {
		b[i] = byte(m.below(256))
	}
	return string(b)
}

// made: a disk of so many sectors.
func made(t *testing.T, sectors int) *Disk {
	t.Helper()
	d, err := New(sectors)
	if err != nil || d == nil {
		t.Fatalf("%d sectors: %v, %v", sectors, d, err)
	}
	return d
}

// whole: all that is read of a disk.
func whole(t *testing.T, d *Disk) []string {
	t.Helper()
	var l []string
	for n := range d.Sectors() {
		s, err := d.Read(n)
		if err != nil || len(s) != 64 {
			t.Fatalf("sector %d: %q, %v", n, s, err)
		}
		l = append(l, s)
	}
	return l
}

// short: all that is read of a disk, without the bytes 0 at the end of a sector.
func short(t *testing.T, d *Disk) string {
	t.Helper()
	l := whole(t, d)
	for i, s := range l {
		l[i] = strings.TrimRight(s, "\x00")
	}
	return strings.Join(l, ",")
}

// is: what is read of a disk, and how many writes wait.
func is(t *testing.T, name any, d *Disk, want string, waiting int) {
	t.Helper()
	if got := short(t, d); got != want || d.Waiting() != waiting {
		t.Errorf("%v: %q with %d that wait, want %q with %d", name, got, d.Waiting(), want, waiting)
	}
}

// do: acts, each of which must answer no error.
func do(t *testing.T, errs ...error) {
	t.Helper()
	for i, err := range errs {
		if err != nil {
			t.Errorf("act %d: %v", i, err)
		}
	}
}

// strange: numbers that no sector, and no disk, has.
func strange() []int {
	return []int{-1, -2, -64, 1 << 31, -1 << 31, 1 << 32, 1<<32 + 1, -1 << 32, 1<<63 - 1, -1 << 63, math.MaxInt - 1, math.MinInt + 1}
}

// P190

func TestNew(t *testing.T) {
	for _, sectors := range []int{1, 2, 3, 63, 64, 65, 3999, 4000} {
		d := made(t, sectors)
		if d.Sectors() != sectors || d.Waiting() != 0 {
			t.Errorf("%d: %d sectors, %d wait", sectors, d.Sectors(), d.Waiting())
		}
		for n, s := range whole(t, d) {
			if s != strings.Repeat("\x00", 64) {
				t.Errorf("sector %d of %d: %q", n, sectors, s)
			}
		}
		is(t, sectors, d, strings.Repeat(",", sectors-1), 0)
	}
}

func TestNewBounds(t *testing.T) {
	for _, sectors := range append(strange(), 0, 4001, 4002, 8000) {
		if d, err := New(sectors); d != nil || err != api.ErrBound {
			t.Errorf("%d: %v, %v", sectors, d, err)
		}
	}
}

func TestWriteLengths(t *testing.T) {
	d := made(t, 3)
	m := mixer(1)
	for n := 0; n <= 64; n++ {
		full, s := m.text(64), m.text(n)
		do(t, d.Write(0, full), d.Write(1, full), d.Write(2, full), d.Write(1, s))
		want := []string{full, s + strings.Repeat("\x00", 64-n), full}
		if got := whole(t, d); !slices.Equal(got, want) {
			t.Errorf("%d bytes: %q, want %q", n, got, want)
		}
		do(t, d.Flush())
		d.Crash(nil)
		if got := whole(t, d); !slices.Equal(got, want) {
			t.Errorf("%d bytes, flushed: %q, want %q", n, got, want)
		}
	}
}

func TestFullDisk(t *testing.T) {
	d := made(t, 4000)
	for n := range 4000 {
		do(t, d.Write(4000-1-n, strconv.Itoa(4000-1-n)+"."))
	}
	if d.Waiting() != 4000 {
		t.Error(d.Waiting())
	}
	do(t, d.Flush())
	d.Crash(nil)
	for n, s := range whole(t, d) {
		if strings.TrimRight(s, "\x00") != strconv.Itoa(n)+"." {
			t.Errorf("sector %d: %q", n, s)
		}
	}
}

func TestWriteWrong(t *testing.T) {
	for _, sectors := range []int{1, 3, 4000} {
		d := made(t, sectors)
		do(t, d.Write(0, "a"), d.Flush(), d.Write(sectors-1, "b"))
		was := whole(t, d)
		for _, n := range append(strange(), sectors, sectors+1) {
			for _, s := range []string{"", "x", strings.Repeat("x", 64), strings.Repeat("x", 65)} {
				if err := d.Write(n, s); err != api.ErrBound {
					t.Errorf("sector %d of %d, %d bytes: %v", n, sectors, len(s), err)
				}
			}
			if s, err := d.Read(n); s != "" || err != api.ErrBound {
				t.Errorf("sector %d of %d: %q, %v", n, sectors, s, err)
			}
		}
		for _, length := range []int{65, 66, 127, 128, 256, 300, 65536 + 1, 300000} {
			if err := d.Write(0, strings.Repeat("\x00", length)); err != api.ErrShape {
				t.Errorf("%d bytes: %v", length, err)
			}
		}
		if !slices.Equal(whole(t, d), was) || d.Waiting() != 1 {
			t.Errorf("%d sectors: wrong writes changed the disk", sectors)
		}
	}
}

func TestWrittenBytesAreTakenOnce(t *testing.T) {
	d := made(t, 1)
	b := []byte("abc")
	do(t, d.Write(0, string(b)))
	b[0] = 'x'
	is(t, "a text changed behind", d, "abc", 1)
	s, _ := d.Read(0)
	do(t, d.Write(0, "new"))
	if s != "abc"+strings.Repeat("\x00", 61) {
		t.Errorf("what was read became %q", s)
	}
}

// P191

func TestWaiting(t *testing.T) {
	d := made(t, 2)
	for i := range 5 {
		do(t, d.Write(0, "a"))
		is(t, i, d, "a,", i+1)
	}
	d.Write(2, "x")
	d.Write(0, strings.Repeat("x", 65))
	is(t, "wrong ones", d, "a,", 5)
	do(t, d.Flush())
	is(t, "flushed", d, "a,", 0)
	do(t, d.Flush())
	is(t, "flushed again", d, "a,", 0)
	do(t, d.Write(1, "b"), d.Write(1, "b"))
	is(t, "twice the same", d, "a,b", 2)
	do(t, d.Fail(0))
	if err := d.Flush(); err != api.ErrPower {
		t.Error(err)
	}
	if err := d.Write(1, "c"); err != api.ErrPower {
		t.Error(err)
	}
	is(t, "no power", d, "a,b", 2)
	d.Crash(nil)
	is(t, "crashed", d, "a,", 0)
}

func TestFail(t *testing.T) {
	for after := range 8 {
		for kinds := range 1 << 8 {
			d := made(t, 2)
			do(t, d.Write(0, "was"), d.Flush(), d.Write(1, "too"), d.Fail(after))
			other := newSlow(2)
			other.stays, other.waits = []told{{0, "was"}}, []told{{1, "too"}}
			other.fail(after)
			for i := range 8 {
				var err, want error
				if kinds>>i&1 == 1 {
					err, want = d.Flush(), other.flush()
				} else {
					err, want = d.Write(i%2, strconv.Itoa(i)), other.write(i%2, strconv.Itoa(i))
				}
				if isGone := i >= after; err != want || (err == api.ErrPower) != isGone {
					t.Fatalf("fail %d, kinds %b, act %d: %v, want %v", after, kinds, i, err, want)
				}
			}
			alike(t, d, other)
			d.Crash(nil)
			other.crash(nil)
			alike(t, d, other)
			do(t, d.Write(0, "again"), d.Flush())
		}
	}
}

func TestFailNeitherCountsWrongActsNorReads(t *testing.T) {
	d := made(t, 2)
	do(t, d.Fail(2))
	wrong := func() {
		t.Helper()
		for range 5 {
			_, far := d.Read(2)
			for i, err := range []error{d.Write(2, ""), d.Write(-1, strings.Repeat("x", 65)), far, d.Fail(-1)} {
				if err != api.ErrBound {
					t.Errorf("%d: %v", i, err)
				}
			}
			if err := d.Write(0, strings.Repeat("x", 65)); err != api.ErrShape {
				t.Error(err)
			}
			whole(t, d)
			d.Copy()
		}
	}
	wrong()
	do(t, d.Write(0, "a"))
	wrong()
	do(t, d.Flush())
	wrong()
	for range 3 {
		if err := d.Write(0, "b"); err != api.ErrPower {
			t.Error(err)
		}
		if err := d.Flush(); err != api.ErrPower {
			t.Error(err)
		}
		wrong()
	}
	is(t, "no power", d, "a,", 0)
}

func TestFailWrong(t *testing.T) {
	for _, after := range []int{-1, -2, -1 << 31, -1 << 32, math.MinInt, math.MinInt + 1} {
		d := made(t, 1)
		if err := d.Fail(after); err != api.ErrBound {
			t.Errorf("%d: %v", after, err)
		}
		do(t, d.Write(0, "a"), d.Flush(), d.Write(0, "b"), d.Fail(1))
		if err := d.Fail(after); err != api.ErrBound {
			t.Errorf("%d: %v", after, err)
		}
		do(t, d.Flush())
		if err := d.Write(0, "c"); err != api.ErrPower {
			t.Errorf("%d: %v", after, err)
		}
		is(t, after, d, "b", 0)
	}
}

func TestFailLate(t *testing.T) {
	for _, after := range []int{1000, 1 << 31, 1 << 32, math.MaxInt} {
		d := made(t, 1)
		do(t, d.Fail(after))
		for range 500 {
			do(t, d.Write(0, "a"), d.Flush())
		}
		if err := d.Write(0, "b"); (err == api.ErrPower) != (after == 1000) {
			t.Errorf("%d: %v", after, err)
		}
	}
}

// The later Fail counts, also where the power is gone already.
func TestFailAgain(t *testing.T) {
	for first := range 4 {
		for second := range 4 {
			for ahead := range 6 {
				d := made(t, 1)
				do(t, d.Fail(first))
				for range ahead {
					d.Write(0, "a")
				}
				do(t, d.Fail(second))
				for i := range 6 {
					if err := d.Flush(); (err == api.ErrPower) != (i >= second) {
						t.Errorf("fail %d, %d acts, fail %d: act %d: %v", first, ahead, second, i, err)
					}
				}
			}
		}
	}
}

// All lists of up to four writes on two sectors, with all lists of up to five that say what is kept.
func TestCrash(t *testing.T) {
	for count := range 5 {
		for places := range 1 << count {
			for length := range 6 {
				for kept := range 1 << length {
					d, other := made(t, 2), newSlow(2)
					do(t, d.Write(0, "first"), d.Flush())
					other.stays = []told{{0, "first"}}
					for i := range count {
						do(t, d.Write(places>>i&1, strconv.Itoa(i)), other.write(places>>i&1, strconv.Itoa(i)))
					}
					alike(t, d, other)
					keep := bits(kept, length)
					d.Crash(keep)
					other.crash(keep)
					alike(t, d, other)
					if !slices.Equal(keep, bits(kept, length)) {
						t.Fatal("the list that was handed over is another one")
					}
					now := short(t, d)
					d.Crash([]bool{true, true, true, true, true})
					is(t, "crashed again", d, now, 0)
					do(t, d.Flush())
					is(t, "flushed behind", d, now, 0)
				}
			}
		}
	}
}

func TestCrashReadsNothingBehindTheList(t *testing.T) {
	keep := []bool{true, true, true}
	for n := range 4 {
		d := made(t, 3)
		do(t, d.Write(0, "a"), d.Write(1, "b"), d.Write(2, "c"))
		d.Crash(keep[:n])
		is(t, n, d, []string{",,", "a,,", "a,b,", "a,b,c"}[n], 0)
		if !slices.Equal(keep, []bool{true, true, true}) {
			t.Error(keep)
		}
	}
}

func TestCrashGivesPower(t *testing.T) {
	for after := range 4 {
		d := made(t, 1)
		do(t, d.Fail(after))
		for range 2 {
			d.Write(0, "a")
		}
		d.Crash([]bool{true})
		is(t, after, d, map[bool]string{true: "a"}[after > 0], 0)
		for range 10 {
			do(t, d.Write(0, "b"), d.Flush())
		}
		d.Crash(nil)
		is(t, after, d, "b", 0)
	}
}

// P192

func TestCopy(t *testing.T) {
	d := made(t, 3)
	do(t, d.Write(0, "a"), d.Flush(), d.Write(1, "b"), d.Write(0, "c"), d.Fail(2))
	c, late := d.Copy(), d.Copy()
	if c.Sectors() != 3 {
		t.Error(c.Sectors())
	}
	is(t, "copy", c, "c,b,", 2)
	do(t, d.Write(2, "d"), d.Flush())
	is(t, "the copy behind acts of the first", c, "c,b,", 2)
	c.Crash([]bool{true, false})
	is(t, "the copy crashed", c, "a,b,", 0)
	is(t, "the first behind acts of the copy", d, "c,b,d", 0)
	if err := d.Flush(); err != api.ErrPower {
		t.Error("the first has its own power:", err)
	}
	do(t, c.Write(0, "x"), c.Write(1, "y"), c.Flush(), c.Flush())
	do(t, late.Write(2, "z"), late.Write(2, "w"))
	if err := late.Flush(); err != api.ErrPower {
		t.Error("a copy fails as the first one:", err)
	}
	is(t, "another copy", late, "c,b,w", 4)
	is(t, "the first", d, "c,b,d", 0)
	late.Crash([]bool{false, true, true})
	is(t, "another copy crashed", late, "c,,z", 0)
	d.Crash(nil)
	is(t, "the first crashed", d, "c,b,d", 0)
}

// What waits on a copy lies in memory of its own, also where it is made longer.
func TestCopyWaits(t *testing.T) {
	for waiting := range 20 {
		d := made(t, 2)
		for i := range waiting {
			do(t, d.Write(0, strconv.Itoa(i)))
		}
		c := d.Copy()
		do(t, d.Write(1, "first"), c.Write(1, "copy"))
		keep := slices.Repeat([]bool{true}, waiting+1)
		c.Crash(keep)
		d.Crash(keep)
		last := map[bool]string{true: strconv.Itoa(waiting - 1)}[waiting > 0]
		is(t, waiting, d, last+",first", 0)
		is(t, waiting, c, last+",copy", 0)
	}
}

// P193

func TestFlushedStays(t *testing.T) {
	m := mixer(3)
	for range 300 {
		d := made(t, 4)
		flushed := whole(t, d)
		may := make([][]string, 4) // what may stand in each sector behind a crash
		for n := range may {
			may[n] = flushed[n : n+1]
		}
		for range 40 {
			switch k := m.below(8); {
			case k < 5:
				n, s := m.below(4), m.text(64)
				do(t, d.Write(n, s))
				may[n] = slices.Concat(may[n], []string{s})
			case k == 5:
				do(t, d.Flush())
				flushed = whole(t, d)
			case k == 6:
				c := d.Copy()
				c.Crash(nil)
				if !slices.Equal(whole(t, c), flushed) {
					t.Fatal("what was flushed is another one")
				}
				continue
			default:
				d.Crash(bits(m.below(256), 8))
				flushed = whole(t, d)
				for n, s := range flushed {
					if !slices.Contains(may[n], s) {
						t.Fatal("there is what was not written since")
					}
				}
			}
			if d.Waiting() == 0 {
				for n := range may {
					may[n] = flushed[n : n+1]
				}
			}
		}
	}
}

// P190 to P193, against the slow way

// newSlow: a slow disk.
func newSlow(sectors int) *slow { return &slow{sectors: sectors} }

// bits of a number, the lowest first.
func bits(n, count int) []bool {
	var l []bool
	for i := range count {
		l = append(l, n>>i&1 == 1)
	}
	return l
}

// alike: a disk reads, and waits, as the slow one.
func alike(t *testing.T, d *Disk, other *slow) {
	t.Helper()
	if d.Sectors() != other.sectors || d.Waiting() != len(other.waits) {
		t.Fatalf("%d sectors, %d wait, want %d, %d", d.Sectors(), d.Waiting(), other.sectors, len(other.waits))
	}
	for n := -1; n <= other.sectors; n++ {
		got, err := d.Read(n)
		want, wantErr := other.read(n)
		if got != want || err != wantErr {
			t.Fatalf("sector %d: %q, %v, want %q, %v", n, got, err, want, wantErr)
		}
	}
}

// mixed act on both disks.
func mixed(m *mixer, d *Disk, other *slow) (err, want error) {
	n := m.below(other.sectors+2) - 1
	s := m.text(m.below(67))
	switch k := m.below(20); {
	case k < 14:
		return d.Write(n, s), other.write(n, s)
	case k < 17:
		return d.Flush(), other.flush()
	case k < 18:
		after := m.below(8) - 1
		return d.Fail(after), other.fail(after)
	}
	keep := bits(m.below(1<<10), m.below(10))
	d.Crash(keep)
	other.crash(keep)
	return nil, nil
}

func TestAgainstSlow(t *testing.T) {
	m := mixer(7)
	for range 400 {
		sectors := 1 + m.below(5)
		disks, others := []*Disk{made(t, sectors)}, []*slow{newSlow(sectors)}
		for range 80 {
			if m.below(30) == 0 {
				i := m.below(len(disks))
				disks, others = append(disks, disks[i].Copy()), append(others, others[i].copied())
			}
			i := m.below(len(disks))
			if err, want := mixed(&m, disks[i], others[i]); err != want {
				t.Fatalf("%v, want %v", err, want)
			}
			for i, d := range disks {
				alike(t, d, others[i])
			}
		}
	}
}
