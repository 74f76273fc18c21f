package chunk

import (
	"strings"

	"layercake/api"
	"layercake/sum"
)

const (
	numberSize = 4
	kindSize   = 4
	bareSize   = numberSize + kindSize + numberSize // bytes of a chunk without its data
)

func isKind(s string) bool {
	if len(s) != kindSize {
		return false
	}
	for i := range len(s) {
		if !isLetter(s[i]) {
			return false
		}
	}
	return true
}

func isLetter(b byte) bool { return b >= 'A' && b <= 'Z' || b >= 'a' && b <= 'z' }

// put a chunk, that is one, behind a text.
func put(text []byte, c Chunk) []byte {
	summed := c.Kind + c.Data
	text = putNumber(text, uint32(len(c.Data)))
	text = append(text, summed...)
	return putNumber(text, sum.CRC(summed))
}

// next chunk: the one with which a text begins.
func next(s string) (Chunk, error) {
	if len(s) < bareSize {
		return Chunk{}, api.ErrText
	}
	// In 64 bits, as an int may have no room for what four bytes tell.
	if int64(number(s)) > int64(len(s)-bareSize) {
		return Chunk{}, api.ErrText
	}
	end := numberSize + kindSize + int(number(s))
	kind, data := s[numberSize:numberSize+kindSize], s[numberSize+kindSize:end]
	if !isKind(kind) {
		return Chunk{}, api.ErrText
	}
	if number(s[end:]) != sum.CRC(s[numberSize:end]) {
		return Chunk{}, api.ErrSum
	}
	// Clones: an answer shares no memory with what was handed in.
	return Chunk{Kind: strings.Clone(kind), Data: strings.Clone(data)}, nil
}

func putNumber(text []byte, n uint32) []byte {
	return append(text, byte(n>>24), byte(n>>16), byte(n>>8), byte(n))
}

// number that the first four bytes of a text tell.
func number(s string) uint32 {
	return uint32(s[0])<<24 | uint32(s[1])<<16 | uint32(s[2])<<8 | uint32(s[3])
}
