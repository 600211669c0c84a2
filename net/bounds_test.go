package net_test

import (
	"bytes"
	"math"
	"testing"

	"turnpike/api"
	"turnpike/net"
)

// wantAll: every call of a connection and a side answers that error, with nothing beside it.
func wantAll(t *testing.T, what string, n *net.Net, conn, side int, want api.Errno) {
	t.Helper()
	for _, p := range [][]byte{nil, []byte("x"), make([]byte, api.MaxFile+1)} {
		wantErr(t, what+": Write", n.Write(conn, side, p), want)
	}
	wantErr(t, what+": Close", n.Close(conn, side), want)
	for _, most := range []int{0, 1, math.MaxInt} {
		if k, e := n.Pass(conn, side, most); k != 0 || e != want {
			t.Errorf("%s: Pass: %d, error %d, want %d", what, k, int(e), int(want))
		}
	}
	if p, end, e := n.Read(conn, side); len(p) != 0 || end || e != want {
		t.Errorf("%s: Read: %q, %v, error %d, want %d", what, p, end, int(e), int(want))
	}
	wantUnder(t, n, conn, side, 0)
}

var off = []int{-1, -2, math.MinInt, math.MaxInt, math.MinInt + 1, math.MaxInt - 1}

// P4.2 to P4.6: no such connection, no such side; what was refused changed nothing.
func TestNoSuchConnectionOrSide(t *testing.T) {
	n := net.New()
	for _, conn := range append([]int{0, 1}, off...) {
		wantAll(t, "no connections", n, conn, 0, api.ErrArg)
		wantErr(t, "Cut", n.Cut(conn), api.ErrArg)
	}
	n = dialled(t, 2)
	for conn := range 2 {
		for side := range 2 {
			ok(t, write(n, conn, side, "ab"))
			wantPass(t, n, conn, side, 1, 1)
		}
	}
	for _, conn := range append([]int{2, 3, net.MaxConns}, off...) {
		for _, side := range append([]int{0, 1, 2}, off...) {
			wantAll(t, "no such connection", n, conn, side, api.ErrArg)
		}
		wantErr(t, "Cut", n.Cut(conn), api.ErrArg)
	}
	for _, side := range append([]int{2, 3, 256, 1 << 32}, off...) {
		for conn := range 2 {
			wantAll(t, "no such side", n, conn, side, api.ErrArg)
		}
	}
	for conn := range 2 {
		for side := range 2 {
			wantUnder(t, n, conn, side, 1)
			wantRead(t, n, conn, 1-side, "a", false)
			wantPass(t, n, conn, side, 9, 1)
			wantRead(t, n, conn, 1-side, "b", false)
		}
	}
	if n.Conns() != 2 {
		t.Errorf("%d connections", n.Conns())
	}
}

// P4.3: most below 0, whatever state it is in; nothing passes, no close arrives.
func TestPassBelowNothing(t *testing.T) {
	n := dialled(t, 2)
	ok(t, write(n, 0, 0, "ab"), n.Close(0, 0), n.Close(0, 1))
	below := func(conn, side int) {
		t.Helper()
		for _, most := range []int{-1, -2, math.MinInt} {
			if k, e := n.Pass(conn, side, most); k != 0 || e != api.ErrArg {
				t.Errorf("Pass of %d: %d, error %d", most, k, int(e))
			}
		}
	}
	below(0, 0)
	below(0, 1)
	wantUnder(t, n, 0, 0, 2)
	wantRead(t, n, 0, 0, "", false)
	wantRead(t, n, 0, 1, "", false)
	wantPass(t, n, 0, 0, math.MaxInt, 2)
	wantPass(t, n, 0, 1, math.MaxInt, 0)
	wantRead(t, n, 0, 0, "", true)
	wantRead(t, n, 0, 1, "ab", true)
	ok(t, n.Cut(1))
	below(1, 0)
	below(1, 1)
	below(2, 0)
}

// P4.1: times below 0 change nothing; a great many refusals.
func TestRefuseBelowNothing(t *testing.T) {
	n := net.New()
	ok(t, n.Refuse("a", 1))
	for _, times := range off {
		if times < 0 {
			wantErr(t, "Refuse", n.Refuse("a", times), api.ErrArg)
			wantErr(t, "Refuse", n.Refuse("b", times), api.ErrArg)
		}
	}
	wantDial(t, n, "b", 0, api.OK)
	wantDial(t, n, "a", -1, api.ErrRefused)
	wantDial(t, n, "a", 1, api.OK)
	ok(t, n.Refuse("a", math.MaxInt))
	for range 2 * net.MaxConns {
		wantDial(t, n, "a", -1, api.ErrRefused)
	}
	if n.Conns() != 2 {
		t.Errorf("%d connections", n.Conns())
	}
	ok(t, n.Refuse("a", 0))
	wantDial(t, n, "a", 2, api.OK)
}

// P4.1: MaxConns connections, and one more; cut, closed and accepted ones are still dialled.
func TestMaxConns(t *testing.T) {
	if net.MaxConns != 4096 {
		t.Errorf("MaxConns is %d", net.MaxConns)
	}
	n := dialled(t, net.MaxConns-1)
	ok(t, n.Refuse("a", 1))
	wantDial(t, n, "a", -1, api.ErrRefused)
	wantDial(t, n, "b", net.MaxConns-1, api.OK)
	ok(t, n.Refuse("a", 1), n.Cut(0), n.Close(1, 0), n.Close(1, 1))
	wantAccept(t, n, "b", net.MaxConns-1, true)
	for range 3 {
		wantDial(t, n, "a", -1, api.ErrLong)
		wantDial(t, n, "b", -1, api.ErrLong)
	}
	if n.Conns() != net.MaxConns {
		t.Errorf("%d connections", n.Conns())
	}
	wantAccept(t, n, "b", 0, false)
	for conn := 1; conn < net.MaxConns-1; conn++ {
		wantAccept(t, n, "a", conn, true)
	}
	wantAccept(t, n, "a", 0, false)
	last := net.MaxConns - 1
	ok(t, write(n, last, 1, "x"))
	wantPass(t, n, last, 1, 1, 1)
	wantRead(t, n, last, 0, "x", false)
	wantErr(t, "no such connection", n.Cut(net.MaxConns), api.ErrArg)
}

// P4.2: MaxFile bytes under way for a side, and one more: of that side alone, and of what is under way alone.
func TestMaxFile(t *testing.T) {
	for side := range 2 {
		n, other := dialled(t, 2), 1-side
		full := bytes.Repeat([]byte("0123456789abcdef"), api.MaxFile/16)
		wantErr(t, "one more at once", n.Write(0, side, append(full, 'x')), api.ErrLong)
		wantUnder(t, n, 0, side, 0)
		ok(t, n.Write(0, side, full[:api.MaxFile-1]))
		wantErr(t, "two more", write(n, 0, side, "xy"), api.ErrLong)
		ok(t, n.Write(0, side, full[api.MaxFile-1:]))
		wantErr(t, "one more", write(n, 0, side, "x"), api.ErrLong)
		wantErr(t, "as much again", n.Write(0, side, full), api.ErrLong)
		ok(t, n.Write(0, side, nil), n.Write(0, other, full), n.Write(1, side, full))
		wantUnder(t, n, 0, side, api.MaxFile)
		wantPass(t, n, 0, side, 3, 3)
		wantErr(t, "one too much", write(n, 0, side, "wxyz"), api.ErrLong)
		ok(t, write(n, 0, side, "xyz"))
		wantErr(t, "full again", write(n, 0, side, "x"), api.ErrLong)
		ok(t, n.Close(0, side))
		wantErr(t, "closed, and full", write(n, 0, side, "x"), api.ErrEnded)
		wantPass(t, n, 0, side, math.MaxInt, api.MaxFile)
		wantRead(t, n, 0, other, string(full)+"xyz", true)
	}
}

// P4.4: what arrived and was not read has no bound.
func TestMoreThanMaxFileArrived(t *testing.T) {
	n := dialled(t, 1)
	part := bytes.Repeat([]byte("0123456789abcde"), api.MaxFile/15)
	var all []byte
	for range 5 {
		ok(t, n.Write(0, 1, part))
		wantPass(t, n, 0, 1, api.MaxFile, len(part))
		all = append(all, part...)
	}
	wantRead(t, n, 0, 0, string(all), false)
	wantRead(t, n, 0, 0, "", false)
}

// P4.7: byte by byte, as many as may be under way.
func TestByteByByte(t *testing.T) {
	n := dialled(t, 1)
	all := make([]byte, api.MaxFile)
	for i := range all {
		all[i] = byte(i ^ i>>8 ^ i>>16)
		ok(t, n.Write(0, 0, all[i:i+1]))
	}
	wantErr(t, "one more", write(n, 0, 0, "x"), api.ErrLong)
	for range all {
		wantPass(t, n, 0, 0, 1, 1)
	}
	wantRead(t, n, 0, 1, string(all), false)
}

// P0.2: of several errors the one that is named first.
func TestOrderOfErrors(t *testing.T) {
	n := dialled(t, 1)
	long := make([]byte, api.MaxFile+1)
	ok(t, n.Close(0, 0))
	wantErr(t, "ended ahead of long", n.Write(0, 0, long), api.ErrEnded)
	ok(t, n.Cut(0))
	wantErr(t, "cut ahead of ended", n.Write(0, 0, long), api.ErrReset)
	wantErr(t, "cut ahead of ended", n.Close(0, 0), api.ErrReset)
	wantErr(t, "arguments ahead of cut", n.Write(0, 2, long), api.ErrArg)
	wantErr(t, "arguments ahead of cut", n.Close(0, -1), api.ErrArg)
	if _, e := n.Pass(0, 2, 1); e != api.ErrArg {
		t.Errorf("Pass: error %d", int(e))
	}
	if _, _, e := n.Read(0, 2); e != api.ErrArg {
		t.Errorf("Read: error %d", int(e))
	}
}

// P0.1: a nil net, at all arguments.
func TestNilNet(t *testing.T) {
	var n *net.Net
	for _, times := range []int{0, 1, -1} {
		wantErr(t, "Refuse", n.Refuse("a", times), api.ErrNil)
	}
	wantDial(t, n, "a", -1, api.ErrNil)
	wantAccept(t, n, "a", 0, false)
	for _, conn := range append([]int{0, 1}, off...) {
		for _, side := range append([]int{0, 1, 2}, off...) {
			wantAll(t, "nil", n, conn, side, api.ErrNil)
		}
		if k, e := n.Pass(conn, 0, -1); k != 0 || e != api.ErrNil {
			t.Errorf("Pass: %d, error %d", k, int(e))
		}
		wantErr(t, "Cut", n.Cut(conn), api.ErrNil)
	}
	if n.Conns() != 0 {
		t.Errorf("%d connections", n.Conns())
	}
}

// P0.1: a net that New did not make is one without connections.
func TestZeroNet(t *testing.T) {
	n := &net.Net{}
	wantAll(t, "zero", n, 0, 0, api.ErrArg)
	ok(t, n.Refuse("b", 0), n.Refuse("a", 1))
	wantDial(t, n, "a", -1, api.ErrRefused)
	wantDial(t, n, "a", 0, api.OK)
	wantAccept(t, n, "a", 0, true)
	if n.Conns() != 1 {
		t.Errorf("%d connections", n.Conns())
	}
}
