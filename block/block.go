// Package block: what the blocks of a packed text are made of, for those who read them and those who write them: see ../shared/doc/04-inflate.md.
package block

// Kinds of blocks.
const (
	Stored = iota
	Fixed
	Dynamic
)

// How many there may be in a dynamic block.
const (
	LeastSymbols   = 257
	MostSymbols    = 286
	LeastDistances = 1
	MostDistances  = 30
	LeastOfLengths = 4
	MostOfLengths  = 19
)

// End is the symbol between those of bytes and those of lengths.
const End = 256

// Symbols of the code of lengths that are no length.
const (
	LastAgain = 16
	FewZeros  = 17
	ManyZeros = 18
)

// What a match's length, and its distance, begins from, by symbol.
var (
	lengthFrom   = [...]int{3, 4, 5, 6, 7, 8, 9, 10, 11, 13, 15, 17, 19, 23, 27, 31, 35, 43, 51, 59, 67, 83, 99, 115, 131, 163, 195, 227, 258}
	distanceFrom = [...]int{1, 2, 3, 4, 5, 7, 9, 13, 17, 25, 33, 49, 65, 97, 129, 193, 257, 385, 513, 769, 1025, 1537, 2049, 3073, 4097, 6145, 8193, 12289, 16385, 24577}
)

// OfLengths: the symbols of the code of lengths, in the order in which their own lengths are written.
func OfLengths() [MostOfLengths]int {
	return [...]int{16, 17, 18, 0, 8, 7, 9, 6, 10, 5, 11, 4, 12, 3, 13, 2, 14, 1, 15}
}

// Times that a symbol of the code of lengths tells a length: at least so many, and how many bits tell how many more.
func Times(symbol int) (least, width int) {
	switch symbol {
	case LastAgain:
		return 3, 2
	case FewZeros:
		return 3, 3
	case ManyZeros:
		return 11, 7
	}
	return 1, 0
}

// FixedSymbols: the lengths of the symbols of a fixed block.
func FixedSymbols() []int {
	lengths := make([]int, 288)
	for symbol := range lengths {
		lengths[symbol] = fixedLength(symbol)
	}
	return lengths
}

func fixedLength(symbol int) int {
	switch {
	case symbol <= 143:
		return 8
	case symbol <= 255:
		return 9
	case symbol <= 279:
		return 7
	}
	return 8
}

// FixedDistances: the lengths of the distances of a fixed block.
func FixedDistances() []int {
	lengths := make([]int, 32)
	for symbol := range lengths {
		lengths[symbol] = 5
	}
	return lengths
}

// Length of a match that a symbol tells: from where on, and how many bits tell how much more; not ok if it tells none.
func Length(symbol int) (from, width int, ok bool) {
	at := symbol - End - 1
	if at < 0 || at >= len(lengthFrom) {
		return 0, 0, false
	}
	return lengthFrom[at], lengthBits(at), true
}

// lengthBits grow by one every four; the last length, the greatest one, stands alone.
func lengthBits(at int) int {
	if at == len(lengthFrom)-1 {
		return 0
	}
	return max(at/4-1, 0)
}

// SymbolOfLength: the last one that begins no later, so that the greatest length has its own.
func SymbolOfLength(length int) int {
	at := len(lengthFrom) - 1
	for at > 0 && lengthFrom[at] > length {
		at--
	}
	return End + 1 + at
}

// Distance of a match that a symbol tells: likewise.
func Distance(symbol int) (from, width int, ok bool) {
	if symbol < 0 || symbol >= len(distanceFrom) {
		return 0, 0, false
	}
	return distanceFrom[symbol], distanceBits(symbol), true
}

// distanceBits grow by one every two.
func distanceBits(symbol int) int { return max(symbol/2-1, 0) }

// SymbolOfDistance: likewise.
func SymbolOfDistance(distance int) int {
	symbol := len(distanceFrom) - 1
	for symbol > 0 && distanceFrom[symbol] > distance {
		symbol--
	}
	return symbol
}
