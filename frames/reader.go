package frames

import "turnpike/api"

// Reader reads frames piece by piece. The zero Reader was fed nothing.
type Reader struct {
	waiting []byte // no whole frame
	dead    bool
}

// NewReader is a reader that was fed nothing.
func NewReader() *Reader { return &Reader{} }

// Feed: P19.3.
func (r *Reader) Feed(p []byte) ([]Message, api.Errno) {
	if r == nil {
		return nil, api.ErrNil
	}
	if r.dead {
		return nil, api.ErrFrame
	}
	r.waiting = append(r.waiting, p...)
	var messages []Message
	for at := 0; ; {
		m, size, e := Decode(r.waiting[at:])
		if e != api.OK {
			return messages, r.rest(at, e)
		}
		messages = append(messages, m)
		at += size
	}
}

// rest: what stands at a place waits, if it is torn; if it is no frame, the reader is dead.
func (r *Reader) rest(at int, e api.Errno) api.Errno {
	if e != api.ErrTorn {
		r.waiting, r.dead = nil, true
		return e
	}
	// A list of its own, so that none of the bytes that were taken are kept; where none were, the list stays, so that a long frame may come byte by byte without being copied each time.
	if at > 0 {
		r.waiting = append([]byte(nil), r.waiting[at:]...)
	}
	return api.OK
}

// Waits: P19.4.
func (r *Reader) Waits() int {
	if r == nil {
		return 0
	}
	return len(r.waiting)
}

// Dead: P19.4.
func (r *Reader) Dead() bool { return r != nil && r.dead }
