package inflate

import (
	"layercake/api"
	"layercake/bits"
	"layercake/huff"
)

const ofByte = 8

// unreadable is thrown where a text cannot be read on: Inflate catches it, and nothing between has to hand errors up.
type unreadable struct{ error }

func throw(err error) { panic(unreadable{err}) }

// reader of a packed text, with what it means so far.
type reader struct {
	*bits.Reader
	text  []byte
	most  int
	fixed *codes // kept, as a text may have a great many fixed blocks
}

// codes of a block: of its symbols and of its distances.
type codes struct{ symbols, distances *huff.Tree }

func newReader(s string, most int) *reader {
	return &reader{Reader: bits.NewReader(s), most: most}
}

// used bytes, the last one maybe in part.
func (r *reader) used() int { return (r.At() + ofByte - 1) / ofByte }

func (r *reader) number(width int) int {
	n, err := r.Get(width)
	if err != nil {
		throw(err)
	}
	return int(n)
}

func (r *reader) symbol(t *huff.Tree) int {
	symbol, err := t.Next(r.Reader)
	if err != nil {
		throw(err)
	}
	return symbol
}

// tree of lengths. Whatever is wrong with them, it is the packed text that cannot be.
func tree(lengths []int) *huff.Tree {
	t, err := huff.Read(lengths)
	if err != nil {
		throw(api.ErrText)
	}
	return t
}

// room for n bytes more?
func (r *reader) room(n int) {
	if n > r.most-len(r.text) {
		throw(api.ErrBound)
	}
}
