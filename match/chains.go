package match

import "layercake/api"

// fewTries: places of a long text that are tried for one match, so that one of few unlike bytes does not take too long.
const fewTries = 256

// three bytes that a match begins with.
type three [api.MinMatch]byte

// chains of the places of a text at which the same three bytes stand: where they stood last, and from each place where they stood before it. A place is told as one more than it is, so that 0 is none.
type chains struct {
	text          string
	window, tries int
	last          map[three]int
	before        []int
}

func newChains(s string, window int) *chains {
	return &chains{s, window, triesOf(s), map[three]int{}, make([]int, len(s))}
}

// triesOf a text: all of its places if Fewest tells of it, as P52 needs the longest match there.
func triesOf(s string) int {
	if len(s) <= mostCounted {
		return mostCounted
	}
	return fewTries
}

// begins: a match could begin at this place.
func (c *chains) begins(at int) bool { return len(c.text)-at >= api.MinMatch }

func (c *chains) key(at int) three {
	return three{c.text[at], c.text[at+1], c.text[at+2]}
}

// add a place, once all that are ahead of it are in.
func (c *chains) add(at int) {
	if !c.begins(at) {
		return
	}
	k := c.key(at)
	c.before[at] = c.last[k]
	c.last[k] = at + 1
}

// token that reaches furthest from a place.
func (c *chains) token(at int) api.Token {
	if length, behind := c.longest(at); length > 0 {
		return api.Token{Length: length, Behind: behind}
	}
	return api.Token{Byte: c.text[at]}
}

// longest match at a place, of those that are tried, and the nearest one of that length; 0 and 0 if there is none.
func (c *chains) longest(at int) (length, behind int) {
	if !c.begins(at) {
		return 0, 0
	}
	most := min(api.MaxMatch, len(c.text)-at)
	place := c.last[c.key(at)]
	for range c.tries {
		if place == 0 || length == most {
			break
		}
		from := place - 1
		if at-from > c.window {
			break
		}
		// A longer one has to be the same at this byte too: most places are passed over by it.
		if c.text[from+length] == c.text[at+length] {
			if n := c.same(from, at, most); n > length {
				length, behind = n, at-from
			}
		}
		place = c.before[from]
	}
	return length, behind
}

// same bytes at two places, at most so many.
func (c *chains) same(a, b, most int) int {
	n := 0
	for n < most && c.text[a+n] == c.text[b+n] {
		n++
	}
	return n
}
