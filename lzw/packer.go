package lzw

import "layercake/bits"

// pair that a longer word is: a word of the list, by its code, and the number behind it.
type pair struct{ word, number int }

// packer of numbers. A code has at most as many bits as codes have at that time: so nothing that it writes can fail.
type packer struct {
	bits.Writer
	codes
	list map[pair]int
}

func newPacker(width int) *packer {
	return &packer{codes: codes{width: width}, list: map[pair]int{}}
}

func (p *packer) tell(code int) { p.Put(uint32(code), p.size) }

func (p *packer) pack(s string) {
	p.restart()
	p.tell(p.clearCode())
	if s != "" {
		word := int(s[0])
		for i := 1; i < len(s); i++ {
			word = p.further(word, int(s[i]))
		}
		p.tell(word)
		// The last word gets a number all the same, as who unpacks cannot know that it is the last one.
		p.fit(p.give())
	}
	p.tell(p.endCode())
}

// further by a number: the word that is longer by it, or, if the list has none, the number alone, with the word told.
func (p *packer) further(word, number int) int {
	longer := pair{word, number}
	if code, ok := p.list[longer]; ok {
		return code
	}
	p.tell(word)
	code := p.give()
	p.list[longer] = code
	p.fit(code)
	if code == mostCodes-1 {
		p.tell(p.clearCode())
		p.restart()
		clear(p.list)
	}
	return number
}
