package lzw

import (
	"slices"
	"strconv"
	"strings"

	"layercake/api"
)

// A second packer and a second unpacker, as plain and slow as can be: bits are characters, words are texts. The tests hold the package against them.

// lowestFirst: the bits of a number.
func lowestFirst(n, size int) string {
	s := strconv.FormatInt(int64(n), 2)
	l := []byte(strings.Repeat("0", size-len(s)) + s)
	slices.Reverse(l)
	return string(l)
}

func numberOf(bits string) int {
	l := []byte(bits)
	slices.Reverse(l)
	n, _ := strconv.ParseInt(string(l), 2, 32)
	return int(n)
}

// textOf characters 0 and 1, with 0 up to a whole byte.
func textOf(bits string) string {
	bits += strings.Repeat("0", (8-len(bits)%8)%8)
	var b strings.Builder
	for i := 0; i < len(bits); i += 8 {
		b.WriteByte(byte(numberOf(bits[i : i+8])))
	}
	return b.String()
}

func bitsOf(s string) string {
	var b strings.Builder
	for i := range len(s) {
		b.WriteString(lowestFirst(int(s[i]), 8))
	}
	return b.String()
}

// told: a code, and how many bits it is told in.
type told struct{ code, size int }

func textOfTold(l []told) string {
	var b strings.Builder
	for _, c := range l {
		b.WriteString(lowestFirst(c.code, c.size))
	}
	return textOf(b.String())
}

// firstWords: of one number each.
func firstWords(width int) map[string]int {
	list := map[string]int{}
	for i := range 1 << width {
		list[string([]byte{byte(i)})] = i
	}
	return list
}

// slowPack: what is told, and the words that numbers are told by.
func slowPack(s string, width int) (l []told, words []string) {
	clearCode, endCode := 1<<width, 1<<width+1
	list, longest, next, size := firstWords(width), 1, endCode+1, width+1
	l = append(l, told{clearCode, size})
	for s != "" {
		n := min(longest, len(s))
		for {
			if _, ok := list[s[:n]]; ok {
				break
			}
			n--
		}
		l = append(l, told{list[s[:n]], size})
		words = append(words, s[:n])
		last := n == len(s)
		if !last {
			list[s[:n+1]] = next
			longest = max(longest, n+1)
		}
		if next == 1<<size && size < 12 {
			size++
		}
		if next == 4095 && !last {
			l = append(l, told{clearCode, 12})
			list, longest, next, size = firstWords(width), 1, endCode, width+1
		}
		next++
		s = s[n:]
	}
	return append(l, told{endCode, size}), words
}

func slowUnpack(s string, width, most int) (text string, used int, err error) {
	bits := bitsOf(s)
	clearCode, endCode := 1<<width, 1<<width+1
	first := make([]string, endCode+1)
	for i := range clearCode {
		first[i] = string([]byte{byte(i)})
	}
	list, size, ahead, at := slices.Clone(first), width+1, "", 0
	var b strings.Builder
	for {
		if at+size > len(bits) {
			return "", 0, api.ErrText
		}
		code := numberOf(bits[at : at+size])
		at += size
		switch {
		case code == endCode:
			return b.String(), (at + 7) / 8, nil
		case code == clearCode:
			list, size, ahead = slices.Clone(first), width+1, ""
			continue
		case ahead == "" && code > endCode, code > len(list):
			return "", 0, api.ErrText
		}
		word := ""
		if code == len(list) {
			word = ahead + ahead[:1]
		} else {
			word = list[code]
		}
		if b.Len()+len(word) > most {
			return "", 0, api.ErrBound
		}
		b.WriteString(word)
		if ahead != "" && len(list) < 4096 {
			list = append(list, ahead+word[:1])
		}
		if len(list) == 1<<size && size < 12 {
			size++
		}
		ahead = word
	}
}

// teller of codes as who unpacks reads them, whatever they mean.
type teller struct {
	width, size, words, count int
	l                         []told
}

func newTeller(width int) *teller { return &teller{width: width, size: width + 1} }

func (t *teller) clearCode() int { return 1 << t.width }

func (t *teller) endCode() int { return 1<<t.width + 1 }

// next: the code of the word that comes next.
func (t *teller) next() int { return min(4096, t.endCode()+1+max(0, t.words-1)) }

func (t *teller) tell(codes ...int) {
	for _, code := range codes {
		t.l = append(t.l, told{code, t.size})
		if code == t.clearCode() {
			t.size, t.words = t.width+1, 0
			continue
		}
		t.words++
		if t.next() == 1<<t.size && t.size < 12 {
			t.size++
		}
	}
}

func (t *teller) text() string { return textOfTold(t.l) }

// toldIn a packed text: its codes up to END.
func toldIn(s string, width int) []told {
	t, bits := newTeller(width), bitsOf(s)
	for at := 0; at+t.size <= len(bits); {
		code := numberOf(bits[at : at+t.size])
		at += t.size
		t.tell(code)
		if code == t.endCode() {
			break
		}
	}
	return t.l
}
