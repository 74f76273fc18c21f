package chunk

import (
	"bytes"
	"encoding/binary"
	"fmt"
	"hash/crc32"
	"io"
	"regexp"

	"layercake/api"
)

const eight = "\x89\x50\x4e\x47\x0d\x0a\x1a\x0a"

// mixer makes mixed numbers, the same ones at each run.
type mixer uint64

func (m *mixer) below(n int) int {
	*m = *m*6364136223846793005 + 1442695040888963407
	return int(*m>>33) % n
}

func (m *mixer) bytes(n int) string {
	l := make([]byte, n)
	for i := range l {
		l[i] = byte(m.below(256))
	}
	return string(l)
}

func (m *mixer) kind() string {
	const letters = "ABCDEFGHIJKLMNOPQRSTUVWXYZabcdefghijklmnopqrstuvwxyz"
	l := make([]byte, 4)
	for i := range l {
		l[i] = letters[m.below(len(letters))]
	}
	return string(l)
}

func (m *mixer) chunks(n, longest int) []Chunk {
	l := make([]Chunk, n)
	for i := range l {
		l[i] = Chunk{m.kind(), m.bytes(m.below(longest + 1))}
	}
	return l
}

// slowChunk: of a kind that need be none.
func slowChunk(kind, data string) string {
	var b bytes.Buffer
	binary.Write(&b, binary.BigEndian, uint32(len(data)))
	b.WriteString(kind + data)
	binary.Write(&b, binary.BigEndian, crc32.ChecksumIEEE([]byte(kind+data)))
	return b.String()
}

func slowWrite(l []Chunk) string {
	s := eight
	for _, c := range l {
		s += slowChunk(c.Kind, c.Data)
	}
	return s
}

// slowRead: the chunks, or what is wrong and where (-1: without a place).
func slowRead(s string) (l []Chunk, at int, err error) {
	if len(s) > 300000 {
		return nil, -1, api.ErrBound
	}
	if len(s) < 8 || s[:8] != eight {
		return nil, 0, api.ErrText
	}
	letters := regexp.MustCompile(`\A[A-Za-z]{4}\z`)
	r := bytes.NewReader([]byte(s[8:]))
	for r.Len() > 0 {
		at := len(s) - r.Len()
		var size, crc uint32
		kind := make([]byte, 4)
		if binary.Read(r, binary.BigEndian, &size) != nil {
			return nil, at, api.ErrText
		}
		if _, err := io.ReadFull(r, kind); err != nil {
			return nil, at, api.ErrText
		}
		if uint64(size) > uint64(r.Len()) {
			return nil, at, api.ErrText
		}
		data := make([]byte, size)
		if _, err := io.ReadFull(r, data); err != nil {
			return nil, at, api.ErrText
		}
		if binary.Read(r, binary.BigEndian, &crc) != nil || !letters.Match(kind) {
			return nil, at, api.ErrText
		}
		if crc != crc32.ChecksumIEEE(append(bytes.Clone(kind), data...)) {
			return nil, at, api.ErrSum
		}
		l = append(l, Chunk{string(kind), string(data)})
	}
	return l, 0, nil
}

func short(s string) string {
	if len(s) > 60 {
		return fmt.Sprintf("%q.. (%d)", s[:60], len(s))
	}
	return fmt.Sprintf("%q", s)
}

func shortChunks(l []Chunk) string {
	s := ""
	for i, c := range l {
		if i == 6 {
			return s + fmt.Sprintf(" .. (%d)", len(l))
		}
		s += " " + short(c.Kind) + " " + short(c.Data)
	}
	return "{" + s + " }"
}
