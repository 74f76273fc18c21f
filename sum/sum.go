// Package sum: sums: see ../shared/doc/01-sum.md.
package sum

import "layercake/api"

const (
	crcJoined  = 0xEDB88320
	adlerPrime = 65521
	mostBytes  = 1 << 40
)

// MoreCRC of a text with a sum, and one behind it.
func MoreCRC(c uint32, s string) uint32 {
	table := byteSums()
	c = ^c
	for i := range len(s) {
		c = c>>8 ^ table[uint8(c)^s[i]]
	}
	return ^c
}

// CRC of a text.
func CRC(s string) uint32 { return MoreCRC(0, s) }

// byteSums: what each byte makes of a sum that has no other bits.
func byteSums() [256]uint32 {
	var table [256]uint32
	for b := range table {
		c := uint32(b)
		for range 8 {
			c = oneRight(c)
		}
		table[b] = c
	}
	return table
}

func oneRight(c uint32) uint32 {
	if c&1 == 1 {
		return c>>1 ^ crcJoined
	}
	return c >> 1
}

// MoreAdler of a text with a sum, and one behind it.
func MoreAdler(a uint32, s string) uint32 {
	low, high := halves(a)
	for i := range len(s) {
		low = (low + uint64(s[i])) % adlerPrime
		high = (high + low) % adlerPrime
	}
	return uint32(high<<16 | low)
}

// Adler of a text.
func Adler(s string) uint32 { return MoreAdler(1, s) }

// halves are wider than they need be, as a join multiplies them.
func halves(a uint32) (low, high uint64) {
	return uint64(a&0xFFFF) % adlerPrime, uint64(a>>16) % adlerPrime
}

// JoinCRC of two texts.
func JoinCRC(a, b uint32, n int) (uint32, error) {
	if !countable(n) {
		return 0, api.ErrBound
	}
	// All bits are set at the start and turned at the end, of each text alike: in the join these cancel out.
	return product(a, zeroBytes(n)) ^ b, nil
}

// countable asks in 64 bits, as an int may have no room for the bound.
func countable(n int) bool { return n >= 0 && int64(n) <= mostBytes }

// zeroBytes is what n bytes of no bits multiply a sum by. It is found by squares: n is too great to be counted through.
func zeroBytes(n int) uint32 {
	out, square := uint32(1<<31), uint32(1<<23)
	for ; n > 0; n >>= 1 {
		if n&1 == 1 {
			out = product(out, square)
		}
		square = product(square, square)
	}
	return out
}

// product of two sums as polynomials, less CRC's own one. The highest bit is the power 0, so one bit to the right is once more x.
func product(a, b uint32) uint32 {
	var out uint32
	for ; a != 0; a <<= 1 {
		if a>>31 == 1 {
			out ^= b
		}
		b = oneRight(b)
	}
	return out
}

// JoinAdler of two texts.
func JoinAdler(a, b uint32, n int) (uint32, error) {
	if !countable(n) {
		return 0, api.ErrBound
	}
	low1, high1 := halves(a)
	low2, high2 := halves(b)
	// The second text's A began at 1, not at the first one's A: it lacks this at each of its n bytes.
	lack := (low1 + adlerPrime - 1) % adlerPrime
	low := (low2 + lack) % adlerPrime
	high := (high1 + high2 + uint64(n)*lack) % adlerPrime
	return uint32(high<<16 | low), nil
}
