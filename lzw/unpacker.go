package lzw

import (
	"layercake/api"
	"layercake/bits"
)

const ofByte = 8

// piece of the text.
type piece struct{ at, length int }

// unpacker of codes, with what they mean so far. A longer word is a piece of that: it stands where it came first.
type unpacker struct {
	*bits.Reader
	codes
	longer []piece
	last   piece // the word of the code ahead; of no length behind CLEAR
	text   []byte
	most   int
}

func newUnpacker(s string, width, most int) *unpacker {
	return &unpacker{Reader: bits.NewReader(s), codes: codes{width: width}, most: most}
}

// used bytes, the last one maybe in part.
func (u *unpacker) used() int { return (u.At() + ofByte - 1) / ofByte }

func (u *unpacker) unpack() error {
	u.restart()
	for {
		n, err := u.Get(u.size)
		if err != nil {
			return err
		}
		switch code := int(n); code {
		case u.endCode():
			return nil
		case u.clearCode():
			u.restart()
			u.longer, u.last = u.longer[:0], piece{}
		default:
			if err := u.word(code); err != nil {
				return err
			}
		}
	}
}

// word of a code, behind the text.
func (u *unpacker) word(code int) error {
	u.grow()
	if code >= u.next {
		return api.ErrText
	}
	at := len(u.text)
	if code < u.clearCode() {
		u.text = append(u.text, byte(code))
	} else {
		u.again(u.longer[code-u.firstLonger()])
	}
	if len(u.text) > u.most {
		return api.ErrBound
	}
	u.last = piece{at, len(u.text) - at}
	u.fit(u.next)
	return nil
}

// grow by the word ahead and the first number of this one. That is yet to come, right behind the word ahead: so the new word is known by its place, even where this code means it.
func (u *unpacker) grow() {
	if u.last.length == 0 || u.next == mostCodes {
		return
	}
	u.longer = append(u.longer, piece{u.last.at, u.last.length + 1})
	u.give()
}

// again a piece, number by number: it may reach into what it makes itself.
func (u *unpacker) again(p piece) {
	for i := range p.length {
		u.text = append(u.text, u.text[p.at+i])
	}
}
