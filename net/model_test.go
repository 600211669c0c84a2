package net_test

import (
	"math/rand"
	"testing"

	"turnpike/api"
	"turnpike/net"
)

// model is a net as the chapter words it: each side's whole text, with marks for how far it has arrived and how far it was read.
type model struct {
	conns   []*modelConn
	refused map[string]int
}

type modelConn struct {
	name          string
	accepted, cut bool
	sides         [2]modelSide
}

type modelSide struct {
	wrote            string
	arrived, read    int
	closed, endCame  bool
	wasRead, written string // over all calls, for P4.7
}

func (m *model) dial(name string) (int, api.Errno) {
	if len(m.conns) == net.MaxConns {
		return -1, api.ErrLong
	}
	if m.refused[name] > 0 {
		m.refused[name]--
		return -1, api.ErrRefused
	}
	m.conns = append(m.conns, &modelConn{name: name})
	return len(m.conns) - 1, api.OK
}

func (m *model) accept(name string) (int, bool) {
	for i, c := range m.conns {
		if c.name == name && !c.accepted && !c.cut {
			c.accepted = true
			return i, true
		}
	}
	return 0, false
}

// wrong: what ErrArg and ErrReset say of a call.
func (m *model) wrong(conn, side int) api.Errno {
	switch {
	case conn < 0, conn >= len(m.conns), side != 0 && side != 1:
		return api.ErrArg
	case m.conns[conn].cut:
		return api.ErrReset
	}
	return api.OK
}

func (m *model) write(conn, side int, p string) api.Errno {
	if e := m.wrong(conn, side); e != api.OK {
		return e
	}
	s := &m.conns[conn].sides[side]
	if s.closed {
		return api.ErrEnded
	}
	if len(s.wrote)-s.arrived+len(p) > api.MaxFile {
		return api.ErrLong
	}
	s.wrote += p
	s.written += p
	return api.OK
}

func (m *model) close(conn, side int) api.Errno {
	if e := m.wrong(conn, side); e != api.OK {
		return e
	}
	s := &m.conns[conn].sides[side]
	if s.closed {
		return api.ErrEnded
	}
	s.closed = true
	return api.OK
}

func (m *model) pass(conn, side, most int) (int, api.Errno) {
	if most < 0 {
		return 0, api.ErrArg
	}
	if e := m.wrong(conn, side); e != api.OK {
		return 0, e
	}
	s := &m.conns[conn].sides[side]
	k := len(s.wrote) - s.arrived
	if k > most {
		k = most
	}
	s.arrived += k
	if s.closed && s.arrived == len(s.wrote) {
		s.endCame = true
	}
	return k, api.OK
}

func (m *model) read(conn, side int) (string, bool, api.Errno) {
	if e := m.wrong(conn, side); e != api.OK {
		return "", false, e
	}
	from := &m.conns[conn].sides[1-side]
	p := from.wrote[from.read:from.arrived]
	from.read = from.arrived
	return p, from.endCame, api.OK
}

func (m *model) cut(conn int) api.Errno {
	if e := m.wrong(conn, 0); e != api.OK {
		return e
	}
	m.conns[conn].cut = true
	return api.OK
}

func (m *model) under(conn, side int) int {
	if m.wrong(conn, side) != api.OK {
		return 0
	}
	s := m.conns[conn].sides[side]
	return len(s.wrote) - s.arrived
}

// walk: a net and its model, led by the same draws.
type walk struct {
	*testing.T
	r *rand.Rand
	n *net.Net
	m *model
}

// oneOf: mostly a number from 0 to most-1, at times one off it.
func (w *walk) oneOf(most int) int {
	if w.r.Intn(40) == 0 {
		return w.r.Intn(most+4) - 2
	}
	return w.r.Intn(max(most, 1))
}

func (w *walk) name() string { return []string{"a", "b", ""}[w.r.Intn(3)] }

func (w *walk) bytes() string {
	p := make([]byte, w.r.Intn(9))
	w.r.Read(p)
	return string(p)
}

func (w *walk) wantErr(what string, e, want api.Errno) {
	if e != want {
		w.Fatalf("%s: error %d, want %d", what, int(e), int(want))
	}
}

func (w *walk) names() {
	name := w.name()
	switch w.r.Intn(4) {
	case 0:
		times := w.oneOf(3)
		want := api.OK
		if times < 0 {
			want = api.ErrArg
		} else {
			w.m.refused[name] = times
		}
		w.wantErr("Refuse", w.n.Refuse(name, times), want)
	case 1:
		c, e := w.n.Dial(name)
		c2, e2 := w.m.dial(name)
		if c != c2 || e != e2 {
			w.Fatalf("Dial: %d, %d, want %d, %d", c, e, c2, e2)
		}
	default:
		c, is := w.n.Accept(name)
		c2, is2 := w.m.accept(name)
		if c != c2 || is != is2 {
			w.Fatalf("Accept: %d, %v, want %d, %v", c, is, c2, is2)
		}
	}
}

func (w *walk) read(conn, side int) {
	p, end, e := w.n.Read(conn, side)
	p2, end2, e2 := w.m.read(conn, side)
	if string(p) != p2 || end != end2 || e != e2 {
		w.Fatalf("Read: %q, %v, %d, want %q, %v, %d", p, end, e, p2, end2, e2)
	}
	if e == api.OK {
		w.m.conns[conn].sides[side].wasRead += string(p)
	}
}

func (w *walk) step() {
	if w.r.Intn(8) == 0 {
		w.names()
		return
	}
	conn, side := w.oneOf(len(w.m.conns)), w.oneOf(2)
	switch x := w.r.Intn(100); {
	case x < 30:
		p := w.bytes()
		w.wantErr("Write", w.n.Write(conn, side, []byte(p)), w.m.write(conn, side, p))
	case x < 65:
		most := w.oneOf(12)
		k, e := w.n.Pass(conn, side, most)
		k2, e2 := w.m.pass(conn, side, most)
		if k != k2 || e != e2 {
			w.Fatalf("Pass: %d, %d, want %d, %d", k, e, k2, e2)
		}
	case x < 94:
		w.read(conn, side)
	case x < 98:
		w.wantErr("Close", w.n.Close(conn, side), w.m.close(conn, side))
	default:
		w.wantErr("Cut", w.n.Cut(conn), w.m.cut(conn))
	}
}

// there: P4.6 and P4.7, of all connections.
func (w *walk) there() {
	if w.n.Conns() != len(w.m.conns) {
		w.Fatalf("Conns: %d, want %d", w.n.Conns(), len(w.m.conns))
	}
	for conn := -1; conn <= len(w.m.conns); conn++ {
		for side := -1; side <= 2; side++ {
			if k := w.n.Under(conn, side); k != w.m.under(conn, side) {
				w.Fatalf("Under(%d, %d): %d, want %d", conn, side, k, w.m.under(conn, side))
			}
		}
	}
	for i, c := range w.m.conns {
		for side := range 2 {
			read, wrote := c.sides[side].wasRead, c.sides[1-side].written
			if len(read) > len(wrote) || wrote[:len(read)] != read {
				w.Fatalf("connection %d: side %d read %q, the other wrote %q", i, side, read, wrote)
			}
		}
	}
}

// drain: P4.7: if nothing is under way, what is read is all of it.
func (w *walk) drain() {
	for i, c := range w.m.conns {
		for side := range 2 {
			if c.cut {
				continue
			}
			if k, e := w.n.Pass(i, 1-side, api.MaxFile); k != w.m.under(i, 1-side) || e != api.OK {
				w.Fatalf("the last Pass: %d, %d", k, e)
			}
			p, end, _ := w.n.Read(i, side)
			other := c.sides[1-side]
			if all := c.sides[side].wasRead + string(p); all != other.written || end != other.closed {
				w.Fatalf("all that was read: %q, %v, want %q, %v", all, end, other.written, other.closed)
			}
		}
	}
}

// P4.1 to P4.7: walks at random, held against the model.
func TestAgainstModel(t *testing.T) {
	for seed := range int64(300) {
		w := &walk{T: t, r: rand.New(rand.NewSource(seed)), n: net.New(), m: &model{refused: map[string]int{}}}
		for range 3 {
			w.names()
		}
		for i := range 400 {
			w.step()
			if i%10 == 0 {
				w.there()
			}
		}
		w.there()
		w.drain()
	}
}
