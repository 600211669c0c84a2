package push

import (
	"turnpike/api"
	"turnpike/frames"
)

// conn is a connection to a sidecar.
type conn struct {
	frames.Reader
	open    bool
	name    string // empty, as no Hello's is, till it said hello
	held    int
	refused int
	nonce   int // of the last delta that was written
	version int // likewise
	base    int // likewise
	isUnder bool
	unsent  []byte
}

// close: what is known of a sidecar stays, the bytes of either direction don't.
func (c *conn) close() {
	c.open, c.unsent, c.Reader = false, nil, frames.Reader{}
}

// write: of messages that may be; the server makes no others.
func (c *conn) write(m frames.Message) {
	b, _ := frames.Encode(m)
	c.unsent = append(c.unsent, b...)
}

// send: a delta is written, and under way.
func (c *conn) send(delta frames.Message) {
	c.nonce++
	delta.Nonce = c.nonce
	c.version, c.base, c.isUnder = delta.Version, delta.From, true
	c.write(delta)
}

// isAnswer: whether a message speaks of the delta that is under way.
func (c *conn) isAnswer(m frames.Message) bool { return c.isUnder && m.Nonce == c.nonce }

// push: what a sidecar refused it is not sent again, till there is another one.
func (s *Server) push(c *conn) {
	newest := s.Newest()
	if c.open && c.name != "" && !c.isUnder && c.held != newest && c.refused != newest {
		c.send(s.versions.delta(c.held))
	}
}

// read: whatever the reader says of bytes, the messages that are whole come first.
func (s *Server) read(c *conn, p []byte) api.Errno {
	does := [...]func(*conn, frames.Message) api.Errno{
		frames.Hello: s.hello,
		frames.Delta: s.delta,
		frames.Ack:   s.ack,
		frames.Nack:  s.nack,
		frames.Ping:  s.ping,
	}
	messages, unread := c.Feed(p)
	for _, m := range messages {
		if c.name == "" && m.Kind != frames.Hello {
			return api.ErrFrame
		}
		if e := does[m.Kind](c, m); e != api.OK {
			return e
		}
	}
	return unread
}

func (s *Server) hello(c *conn, m frames.Message) api.Errno {
	if c.name != "" {
		return api.ErrFrame
	}
	c.name, c.held = m.Name, s.versions.find(m.Version).number
	s.push(c)
	return api.OK
}

// delta: a sidecar has none to send.
func (s *Server) delta(*conn, frames.Message) api.Errno { return api.ErrFrame }

func (s *Server) ack(c *conn, m frames.Message) api.Errno {
	if c.isAnswer(m) && m.Version == c.version {
		c.isUnder, c.held = false, m.Version
		s.push(c)
	}
	return api.OK
}

// nack: a sidecar that holds something else than it is known to is sent all; what it refuses whole it is not sent again.
func (s *Server) nack(c *conn, m frames.Message) api.Errno {
	if !c.isAnswer(m) {
		return api.OK
	}
	c.isUnder = false
	if m.Err == api.ErrFrom && c.base != 0 {
		c.held = 0
	} else {
		c.refused = c.version
	}
	s.push(c)
	return api.OK
}

func (s *Server) ping(c *conn, m frames.Message) api.Errno {
	c.write(frames.Message{Kind: frames.Ping, Nonce: m.Nonce})
	return api.OK
}
