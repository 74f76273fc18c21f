package filter

import (
	"encoding/binary"
	"hash/crc32"
	"slices"
	"strings"
)

// A second way for every call, as plain and slow as can be, by the words of the document. The tests hold the package against it.

// at a place of a row, that may be none.
func at(row string, i int) int {
	if i < 0 || i >= len(row) {
		return 0
	}
	return int(row[i])
}

// slowForetold of A, B and C.
func slowForetold(kind, a, b, c int) int {
	switch kind {
	case 1:
		return a
	case 2:
		return b
	case 3:
		return (a + b) >> 1
	case 4:
		for distance := 0; ; distance++ {
			for _, n := range []int{a, b, c} {
				if n-distance == a+b-c || n+distance == a+b-c {
					return n
				}
			}
		}
	}
	return 0
}

func slowDo(kind int, row, ahead string, step int) string {
	var b strings.Builder
	for i := range len(row) {
		n := at(row, i) - slowForetold(kind, at(row, i-step), at(ahead, i), at(ahead, i-step))
		b.WriteByte(byte((n + 256) % 256))
	}
	return b.String()
}

func slowUndo(kind int, row, ahead string, step int) string {
	var b strings.Builder
	for i := range len(row) {
		n := at(row, i) + slowForetold(kind, at(b.String(), i-step), at(ahead, i), at(ahead, i-step))
		b.WriteByte(byte(n % 256))
	}
	return b.String()
}

func slowSum(s string) (sum int) {
	for i := range len(s) {
		if s[i] > 127 {
			sum += 256 - int(s[i])
		} else {
			sum += int(s[i])
		}
	}
	return sum
}

func slowBest(row, ahead string, step int) int {
	var sums []int
	for kind := range 5 {
		sums = append(sums, slowSum(slowDo(kind, row, ahead, step)))
	}
	return slices.Index(sums, slices.Min(sums))
}

// split into rows.
func split(s string, wide int) (l []string) {
	for s != "" {
		l = append(l, s[:wide])
		s = s[wide:]
	}
	return l
}

func slowRows(s string, wide, step int) string {
	var b strings.Builder
	ahead := ""
	for _, row := range split(s, wide) {
		kind := slowBest(row, ahead, step)
		b.WriteByte(byte(kind))
		b.WriteString(slowDo(kind, row, ahead, step))
		ahead = row
	}
	return b.String()
}

func slowBack(s string, wide, step int) string {
	var b strings.Builder
	ahead := ""
	for _, told := range split(s, wide+1) {
		ahead = slowUndo(int(told[0]), told[1:], ahead, step)
		b.WriteString(ahead)
	}
	return b.String()
}

// fileOf rows with their kinds, packed, as the library reads it.
func fileOf(packed string, wide, high, depth, kind int) string {
	head := binary.BigEndian.AppendUint32(nil, uint32(wide))
	head = binary.BigEndian.AppendUint32(head, uint32(high))
	head = append(head, byte(depth), byte(kind), 0, 0, 0)
	return "\x89PNG\r\n\x1a\n" + part("IHDR", string(head)) + part("IDAT", packed) + part("IEND", "")
}

func part(kind, data string) string {
	l := binary.BigEndian.AppendUint32(nil, uint32(len(data)))
	l = append(l, kind+data...)
	return string(binary.BigEndian.AppendUint32(l, crc32.ChecksumIEEE([]byte(kind+data))))
}
