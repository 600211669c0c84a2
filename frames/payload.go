package frames

import "turnpike/api"

const (
	// The widths, in bytes, of what stands in a payload.
	kindWidth   = 1
	nameWidth   = 1
	numberWidth = 8
	textWidth   = 4
	errWidth    = 2

	// maxErr: the greatest that errWidth bytes can tell.
	maxErr = 1<<16 - 1
)

// may: whether a message may be.
func may(m Message) bool {
	switch m.Kind {
	case Hello:
		return m.Name != "" && len(m.Name) <= api.MaxName && areNumbers(m.Version)
	case Delta:
		return areNumbers(m.Nonce, m.From, m.Version) && len(m.Text) <= api.MaxText
	case Ack:
		return areNumbers(m.Nonce, m.Version)
	case Nack:
		return areNumbers(m.Nonce, m.Version) && m.Err > api.OK && m.Err <= maxErr
	case Ping:
		return areNumbers(m.Nonce)
	}
	return false
}

func areNumbers(l ...int) bool {
	for _, n := range l {
		if n < 0 || n > MaxNumber {
			return false
		}
	}
	return true
}

// write: the payload of a message that may be.
func write(m Message) []byte {
	p := appendNumber(nil, m.Kind, kindWidth)
	switch m.Kind {
	case Hello:
		p = appendText(p, m.Name, nameWidth)
		p = appendNumber(p, m.Version, numberWidth)
	case Delta:
		p = appendNumber(p, m.Nonce, numberWidth)
		p = appendNumber(p, m.From, numberWidth)
		p = appendNumber(p, m.Version, numberWidth)
		p = appendText(p, m.Text, textWidth)
	case Ack:
		p = appendNumber(p, m.Nonce, numberWidth)
		p = appendNumber(p, m.Version, numberWidth)
	case Nack:
		p = appendNumber(p, m.Nonce, numberWidth)
		p = appendNumber(p, m.Version, numberWidth)
		p = appendNumber(p, int(m.Err), errWidth)
	case Ping:
		p = appendNumber(p, m.Nonce, numberWidth)
	}
	return p
}

func appendNumber(p []byte, n, width int) []byte {
	all := split(n)
	return append(p, all[len(all)-width:]...)
}

func appendText(p []byte, s string, width int) []byte {
	return append(appendNumber(p, len(s), width), s...)
}

// read: what p tells, and whether that is a message's payload. What stands there is taken as it is, and only the whole message held against the limits: they are the same both ways.
func read(p []byte) (Message, bool) {
	c := cursor{rest: p}
	m := Message{Kind: c.number(kindWidth)}
	switch m.Kind {
	case Hello:
		m.Name = c.text(nameWidth)
		m.Version = c.number(numberWidth)
	case Delta:
		m.Nonce = c.number(numberWidth)
		m.From = c.number(numberWidth)
		m.Version = c.number(numberWidth)
		m.Text = c.text(textWidth)
	case Ack:
		m.Nonce = c.number(numberWidth)
		m.Version = c.number(numberWidth)
	case Nack:
		m.Nonce = c.number(numberWidth)
		m.Version = c.number(numberWidth)
		m.Err = api.Errno(c.number(errWidth))
	case Ping:
		m.Nonce = c.number(numberWidth)
	}
	return m, !c.short && len(c.rest) == 0 && may(m)
}

// cursor goes through a payload. It is short as soon as something is not there whole, whatever it finds behind that.
type cursor struct {
	rest  []byte
	short bool
}

func (c *cursor) take(n int) []byte {
	if n > len(c.rest) {
		c.short = true
		return nil
	}
	taken := c.rest[:n]
	c.rest = c.rest[n:]
	return taken
}

func (c *cursor) number(width int) int { return join(c.take(width)) }

func (c *cursor) text(width int) string { return string(c.take(c.number(width))) }

// split: the bytes of a number, the highest eight bits first.
func split(n int) [numberWidth]byte {
	var all [numberWidth]byte
	for i := range all {
		all[len(all)-1-i] = byte(n >> (8 * i))
	}
	return all
}

// join: the number of which these are the lowest bytes. One that no int holds becomes one below 0, which may not be either.
func join(low []byte) int {
	var all [numberWidth]byte
	copy(all[len(all)-len(low):], low)
	n := uint64(0)
	for _, x := range all {
		n = n<<8 | uint64(x)
	}
	return int(n)
}
