package pixel

// Modes: how the colors of two pixels meet.
const (
	normal = iota
	multiply
	screen
	darken
	lighten
	differ
	modes
)

// meetings by modes: what a color of the top one and that of the one below make together, 255 times.
func meetings() [modes]func(s, d int64) int64 {
	return [modes]func(s, d int64) int64{
		normal:   func(s, d int64) int64 { return full * s },
		multiply: func(s, d int64) int64 { return s * d },
		screen:   func(s, d int64) int64 { return full*(s+d) - s*d },
		darken:   func(s, d int64) int64 { return full * min(s, d) },
		lighten:  func(s, d int64) int64 { return full * max(s, d) },
		differ:   func(s, d int64) int64 { return full * max(s-d, d-s) },
	}
}

// rounded quotient, halves up. Of 64 bits: what is divided goes beyond 32.
func rounded(n, by int64) uint8 { return uint8((2*n + by) / (2 * by)) }
