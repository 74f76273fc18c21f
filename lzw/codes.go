package lzw

const (
	mostBits  = 12
	mostCodes = 1 << mostBits
)

// codes of now: of numbers of width bits each, with size bits each; the next new word of the list has the code next.
type codes struct{ width, size, next int }

// restart: as at first, with words of one number alone.
func (c *codes) restart() {
	c.size = c.width + 1
	c.next = c.firstLonger()
}

func (c *codes) clearCode() int { return 1 << c.width }

func (c *codes) endCode() int { return c.clearCode() + 1 }

func (c *codes) firstLonger() int { return c.endCode() + 1 }

// give a new word its code.
func (c *codes) give() int {
	code := c.next
	c.next++
	return code
}

// fit the size to a code that may be told from now on. Who packs asks for the word that it just added, who unpacks for the one that it adds next: it is the same word, as that one knows it only a code later.
func (c *codes) fit(code int) {
	if c.size < mostBits && code == 1<<c.size {
		c.size++
	}
}
