package disk

import "layercake/api"

// power of a disk: it may be told to go. The zero value stays for ever.
type power struct {
	goes bool
	left int // acts that it lasts for, where it goes
}

// Fail after so many acts.
func (p *power) Fail(after int) error {
	if after < 0 {
		return api.ErrBound
	}
	p.goes, p.left = true, after
	return nil
}

// spend what an act takes.
func (p *power) spend() error {
	switch {
	case !p.goes:
		return nil
	case p.left == 0:
		return api.ErrPower
	}
	p.left--
	return nil
}
