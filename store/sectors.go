package store

import (
	"strings"

	"layercake/api"
	"layercake/disk"
	"layercake/sum"
)

const (
	heads     = 2
	magic     = "cake"
	wordBytes = 4
)

// head of a half.
type head struct {
	syncs uint32 // counted around: two heads that are there are one sync apart
	size  uint32
	sum   uint32
}

// sector of a head.
func (h head) sector() string {
	s := magic
	for _, n := range [3]uint32{h.syncs, h.size, h.sum} {
		s += told(int(n), wordBytes)
	}
	s += told(int(sum.CRC(s)), wordBytes)
	return s + strings.Repeat("\x00", api.Sector-len(s))
}

func headAt(d *disk.Disk, half int) (h head, ok bool) {
	s, _ := d.Read(half)
	word := func(i int) uint32 {
		from := len(magic) + wordBytes*i
		return uint32(number(s[from : from+wordBytes]))
	}
	h = head{syncs: word(0), size: word(1), sum: word(2)}
	if s != h.sector() {
		return head{}, false
	}
	return h, true
}

// last half that was synced: false if none was.
func last(d *disk.Disk) (h head, half int, ok bool) {
	first, isFirst := headAt(d, 0)
	second, isSecond := headAt(d, 1)
	if isSecond && (!isFirst || int32(second.syncs-first.syncs) > 0) {
		return second, 1, true
	}
	return first, 0, isFirst
}

func halfSectors(d *disk.Disk) int { return (d.Sectors() - heads) / 2 }

// room for what is packed.
func room(d *disk.Disk) int { return halfSectors(d) * api.Sector }

// sectorsOf a half that so many bytes lie in.
func sectorsOf(d *disk.Disk, half, size int) (from, count int) {
	return heads + half*halfSectors(d), (size + api.Sector - 1) / api.Sector
}

// kept texts: false if there are none.
func kept(d *disk.Disk) (texts map[string]entry, ok bool) {
	h, half, ok := last(d)
	if !ok || h.size > uint32(room(d)) {
		return nil, false
	}
	from, count := sectorsOf(d, half, int(h.size))
	var b strings.Builder
	for i := range count {
		s, _ := d.Read(from + i)
		b.WriteString(s)
	}
	packed := b.String()[:h.size]
	if sum.CRC(packed) != h.sum {
		return nil, false
	}
	return unpack(packed)
}

// write what is packed into the half that does not count: with its head's write, it does.
func write(d *disk.Disk, packed string) error {
	was, half, ok := last(d)
	if ok {
		half = 1 - half
	}
	var err error
	put := func(n int, s string) {
		if err == nil {
			err = d.Write(n, s)
		}
	}
	flush := func() {
		if err == nil {
			err = d.Flush()
		}
	}
	// What is read may wait still: the half that it does not count may be the one that stays.
	if d.Waiting() > 0 {
		flush()
	}
	from, count := sectorsOf(d, half, len(packed))
	for i := range count {
		put(from+i, packed[i*api.Sector:min((i+1)*api.Sector, len(packed))])
	}
	flush()
	put(half, head{syncs: was.syncs + 1, size: uint32(len(packed)), sum: sum.CRC(packed)}.sector())
	flush()
	return err
}

// clearBeside the head that counts, and that tells of no texts.
func clearBeside(d *disk.Disk) error {
	_, half, _ := last(d)
	none := strings.Repeat("\x00", api.Sector)
	for n := range d.Sectors() {
		if s, _ := d.Read(n); n == half || s == none {
			continue
		}
		if err := d.Write(n, ""); err != nil {
			return err
		}
	}
	return d.Flush()
}
