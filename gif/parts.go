package gif

// What stands in moving pictures, whatever they show.
const (
	ofFile      = "GIF89a"
	behindSize  = "\x70\x00\x00" // no colors for all frames
	ofLoops     = "\x21\xff\x0bNETSCAPE2.0\x03\x01"
	behindLoops = "\x00"
	ofFrame     = "\x21\xf9\x04"
	ofPicture   = "\x00\x2c\x00\x00\x00\x00" // at the left top corner
	ofEnd       = "\x3b"
)

// The byte that tells whether a frame has pixels that cover nothing.
const (
	coversAll  = 8
	coversSome = 9
)

const (
	ofColors  = 128 // the size of the list of colors is told with it
	greatest  = 7   // size: it has room for api.MaxColors
	colorSize = 3
	narrowest = 2 // numbers of fewer bits can't be packed
	opaque    = 255
	ofByte    = 8
)

// roomOf a list of a size, in colors.
func roomOf(size int) int { return 2 << size }

func pair(n int) string { return string([]byte{byte(n), byte(n >> ofByte)}) }
