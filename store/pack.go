package store

// Bytes of the numbers in what is packed.
const (
	nameBytes = 1
	textBytes = 3
)

// pack texts, by rising names: of each its name and itself, each with its length ahead.
func pack(texts map[string]entry) string {
	var l []byte
	put := func(bytes string, width int) {
		l = append(l, told(len(bytes), width)...)
		l = append(l, bytes...)
	}
	for _, name := range rising(texts) {
		put(name, nameBytes)
		put(texts[name].text, textBytes)
	}
	return string(l)
}

// unpack texts: false if pack does not make such.
func unpack(packed string) (texts map[string]entry, ok bool) {
	texts = map[string]entry{}
	left := packed
	next := func(count int) string {
		part := left[:min(count, len(left))]
		left = left[len(part):]
		return part
	}
	for left != "" {
		name := next(number(next(nameBytes)))
		text := next(number(next(textBytes)))
		if !isName(name) || len(texts) == maxTexts {
			return nil, false
		}
		texts[name] = entry{text}
	}
	// It may end within a text, or tell a name twice.
	return texts, pack(texts) == packed
}

// told: a number as so many bytes, the highest first.
func told(n, width int) string {
	l := make([]byte, width)
	for i := range l {
		l[width-1-i] = byte(n >> (8 * i))
	}
	return string(l)
}

// number that bytes tell.
func number(bytes string) int {
	n := 0
	for _, c := range []byte(bytes) {
		n = n<<8 | int(c)
	}
	return n
}
