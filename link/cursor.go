package link

const (
	maxNumber   = 1<<28 - 1
	numberBytes = 4
)

// isNumber tells whether n can be written on the wire.
func isNumber(n int) bool { return 0 <= n && n <= maxNumber }

// cursor walks over bytes. Where a step can't be made, it stands at the byte by which one can tell, or behind the last byte if too few have come: so a reader knows the one from the other, and knows the place.
type cursor struct {
	text string
	at   int
}

func (c *cursor) ended() bool { return c.at >= len(c.text) }

// one takes a byte.
func (c *cursor) one() (byte, bool) {
	if c.ended() {
		return 0, false
	}
	b := c.text[c.at]
	c.at++
	return b, true
}

// number takes a number.
func (c *cursor) number() (int, bool) {
	n, taken := 0, 0
next:
	if c.ended() || taken == numberBytes {
		return 0, false
	}
	b := c.text[c.at]
	if b == 0 && taken > 0 {
		return 0, false
	}
	n |= int(b&127) << (7 * taken)
	taken++
	c.at++
	if b > 127 {
		goto next
	}
	return n, true
}

// take takes so many bytes.
func (c *cursor) take(length int) (string, bool) {
	if length > len(c.text)-c.at {
		c.at = len(c.text)
		return "", false
	}
	s := c.text[c.at : c.at+length]
	c.at += length
	return s, true
}

// appendNumber writes a number from 0 to maxNumber.
func appendNumber(b []byte, n int) []byte {
	for n > 127 {
		b = append(b, byte(n&127|128))
		n >>= 7
	}
	return append(b, byte(n))
}
