package disk

import (
	"slices"
	"strings"

	"layercake/api"
)

// slow: a second way: every write that counts is kept, in its order, and gone through from the last one on.
type slow struct {
	sectors       int
	stays, waits  []told
	acts, goesAt  int // how many acts there were; the one from which on the power is gone
	isToldToBreak bool
}

type told struct {
	n int
	s string
}

func (d *slow) read(n int) (string, error) {
	if n < 0 || n >= d.sectors {
		return "", api.ErrBound
	}
	all := slices.Concat(d.stays, d.waits)
	slices.Reverse(all)
	for _, x := range all {
		if x.n == n {
			return x.s + strings.Repeat("\x00", 64-len(x.s)), nil
		}
	}
	return strings.Repeat("\x00", 64), nil
}

func (d *slow) act() error {
	if d.isToldToBreak && d.acts >= d.goesAt {
		return api.ErrPower
	}
	d.acts++
	return nil
}

func (d *slow) write(n int, s string) error {
	if n < 0 || n >= d.sectors {
		return api.ErrBound
	}
	if len(s) > 64 {
		return api.ErrShape
	}
	if err := d.act(); err != nil {
		return err
	}
	d.waits = append(d.waits, told{n, s})
	return nil
}

func (d *slow) flush() error {
	if err := d.act(); err != nil {
		return err
	}
	d.stays, d.waits = slices.Concat(d.stays, d.waits), nil
	return nil
}

func (d *slow) fail(after int) error {
	if after < 0 {
		return api.ErrBound
	}
	d.isToldToBreak, d.goesAt = true, d.acts+after
	return nil
}

func (d *slow) crash(keep []bool) {
	for i := range min(len(keep), len(d.waits)) {
		if keep[i] {
			d.stays = append(d.stays, d.waits[i])
		}
	}
	d.waits, d.isToldToBreak = nil, false
}

func (d *slow) copied() *slow {
	c := *d
	c.stays, c.waits = slices.Clone(d.stays), slices.Clone(d.waits)
	return &c
}
