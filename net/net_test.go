package net_test

import (
	"strings"
	"testing"

	"turnpike/api"
	"turnpike/net"
)

func wantErr(t *testing.T, what string, e, want api.Errno) {
	t.Helper()
	if e != want {
		t.Errorf("%s: error %d, want %d", what, int(e), int(want))
	}
}

func ok(t *testing.T, errs ...api.Errno) {
	t.Helper()
	for _, e := range errs {
		wantErr(t, "a call that may be", e, api.OK)
	}
}

func wantDial(t *testing.T, n *net.Net, name string, want int, wantE api.Errno) {
	t.Helper()
	if c, e := n.Dial(name); c != want || e != wantE {
		t.Errorf("Dial(%q): %d, error %d, want %d, error %d", name, c, int(e), want, int(wantE))
	}
}

func wantAccept(t *testing.T, n *net.Net, name string, want int, wantIs bool) {
	t.Helper()
	if c, is := n.Accept(name); c != want || is != wantIs {
		t.Errorf("Accept(%q): %d, %v, want %d, %v", name, c, is, want, wantIs)
	}
}

func wantPass(t *testing.T, n *net.Net, conn, side, most, want int) {
	t.Helper()
	if k, e := n.Pass(conn, side, most); k != want || e != api.OK {
		t.Errorf("Pass(%d, %d, %d): %d, error %d, want %d", conn, side, most, k, int(e), want)
	}
}

func wantRead(t *testing.T, n *net.Net, conn, side int, want string, wantEnd bool) {
	t.Helper()
	if p, end, e := n.Read(conn, side); string(p) != want || end != wantEnd || e != api.OK {
		t.Errorf("Read(%d, %d): %q, %v, error %d, want %q, %v", conn, side, p, end, int(e), want, wantEnd)
	}
}

func wantUnder(t *testing.T, n *net.Net, conn, side, want int) {
	t.Helper()
	if k := n.Under(conn, side); k != want {
		t.Errorf("Under(%d, %d): %d, want %d", conn, side, k, want)
	}
}

// dialled: a net with so many connections of the name a.
func dialled(t *testing.T, many int) *net.Net {
	t.Helper()
	n := net.New()
	for i := range many {
		wantDial(t, n, "a", i, api.OK)
	}
	return n
}

func write(n *net.Net, conn, side int, p string) api.Errno { return n.Write(conn, side, []byte(p)) }

// The chapter's examples, line by line.
func TestExamples(t *testing.T) {
	n := net.New()
	ok(t, n.Refuse("a", 1))
	wantDial(t, n, "a", -1, api.ErrRefused)
	wantDial(t, n, "a", 0, api.OK)
	wantDial(t, n, "b", 1, api.OK)

	wantAccept(t, n, "c", 0, false)
	wantAccept(t, n, "a", 0, true)
	wantAccept(t, n, "a", 0, false)

	ok(t, write(n, 0, 0, "hello"))
	wantPass(t, n, 0, 0, 2, 2)
	wantRead(t, n, 0, 1, "he", false)

	ok(t, n.Close(0, 0))
	wantErr(t, "Write behind Close", write(n, 0, 0, "x"), api.ErrEnded)
	wantPass(t, n, 0, 0, 3, 3)
	wantRead(t, n, 0, 1, "llo", true)

	ok(t, write(n, 0, 1, "yes"))
	wantUnder(t, n, 0, 1, 3)
	ok(t, n.Cut(0))
	if p, end, e := n.Read(0, 0); len(p) != 0 || end || e != api.ErrReset {
		t.Errorf("Read of one that is cut: %q, %v, error %d", p, end, int(e))
	}
}

func TestNew(t *testing.T) {
	n := net.New()
	if n == nil || n.Conns() != 0 {
		t.Fatal("a new net has no connections")
	}
	wantAccept(t, n, "", 0, false)
	wantDial(t, n, "", 0, api.OK)
	if net.New().Conns() != 0 {
		t.Error("a second net has the first one's connections")
	}
}

// P4.1: so many dials of that name, no dial of another.
func TestRefuse(t *testing.T) {
	n := net.New()
	ok(t, n.Refuse("a", 3), n.Refuse("", 1))
	made := 0
	for i := range 5 {
		wantDial(t, n, "b", made, api.OK)
		made++
		if i < 3 {
			wantDial(t, n, "a", -1, api.ErrRefused)
		} else {
			wantDial(t, n, "a", made, api.OK)
			made++
		}
	}
	wantDial(t, n, "", -1, api.ErrRefused)
	wantDial(t, n, "", made, api.OK)
	if n.Conns() != made+1 {
		t.Errorf("%d connections, want %d", n.Conns(), made+1)
	}
}

// P4.1: the number takes the place of the one that there was.
func TestRefuseAgain(t *testing.T) {
	n := net.New()
	ok(t, n.Refuse("a", 5), n.Refuse("a", 1))
	wantDial(t, n, "a", -1, api.ErrRefused)
	wantDial(t, n, "a", 0, api.OK)
	ok(t, n.Refuse("a", 1), n.Refuse("a", 2))
	wantDial(t, n, "a", -1, api.ErrRefused)
	ok(t, n.Refuse("a", 2))
	wantDial(t, n, "a", -1, api.ErrRefused)
	wantDial(t, n, "a", -1, api.ErrRefused)
	wantDial(t, n, "a", 1, api.OK)
	ok(t, n.Refuse("a", 7), n.Refuse("a", 0))
	wantDial(t, n, "a", 2, api.OK)
	ok(t, n.Refuse("a", 0))
	wantDial(t, n, "a", 3, api.OK)
}

// P4.1: names are texts of any bytes, told apart byte by byte.
func TestNames(t *testing.T) {
	names := []string{"", "a", "A", "a ", "aa", "a\x00", "\x00", "\xff", "\xfe", "é", "e\u0301", strings.Repeat("n", 1000), strings.Repeat("n", 1001)}
	n := net.New()
	for i, name := range names {
		wantDial(t, n, name, i, api.OK)
	}
	for i := range names {
		at := len(names) - 1 - i
		wantAccept(t, n, names[at], at, true)
		wantAccept(t, n, names[at], 0, false)
	}
	for _, name := range names {
		ok(t, n.Refuse(name, 1))
		for _, other := range names {
			if other != name {
				wantDial(t, n, other, n.Conns(), api.OK)
			}
		}
		wantDial(t, n, name, -1, api.ErrRefused)
	}
}

// P4.1: the first of that name that waits and is not cut; each once.
func TestAccept(t *testing.T) {
	n := net.New()
	for i, name := range []string{"b", "a", "a", "b", "a", "a"} {
		wantDial(t, n, name, i, api.OK)
	}
	ok(t, n.Cut(2))
	wantAccept(t, n, "a", 1, true)
	wantAccept(t, n, "a", 4, true)
	wantAccept(t, n, "b", 0, true)
	wantAccept(t, n, "a", 5, true)
	wantAccept(t, n, "a", 0, false)
	wantDial(t, n, "a", 6, api.OK)
	wantAccept(t, n, "", 0, false)
	wantAccept(t, n, "a", 6, true)
	ok(t, n.Cut(6))
	wantAccept(t, n, "a", 0, false)
	ok(t, n.Cut(3))
	wantAccept(t, n, "b", 0, false)
	wantAccept(t, n, "", 0, false)
}

// P4.1: refusals are for dials: what waits is accepted, and stays as it is.
func TestRefuseIsForDials(t *testing.T) {
	n := dialled(t, 1)
	ok(t, n.Refuse("a", 2), write(n, 0, 0, "x"))
	wantPass(t, n, 0, 0, 1, 1)
	wantAccept(t, n, "a", 0, true)
	wantRead(t, n, 0, 1, "x", false)
	wantAccept(t, n, "a", 0, false)
	wantDial(t, n, "a", -1, api.ErrRefused)
	wantAccept(t, n, "a", 0, false)
	wantDial(t, n, "a", -1, api.ErrRefused)
	wantDial(t, n, "a", 1, api.OK)
}

// P4.2 to P4.4: whether it is accepted says nothing of what travels.
func TestWaiting(t *testing.T) {
	n := dialled(t, 1)
	for side := range 2 {
		ok(t, write(n, 0, side, "ab"), n.Close(0, side))
		wantPass(t, n, 0, side, 2, 2)
		wantRead(t, n, 0, 1-side, "ab", true)
	}
	wantAccept(t, n, "a", 0, true)
	for side := range 2 {
		wantRead(t, n, 0, side, "", true)
	}
}

// P4.2, P4.3: behind what there is; the first bytes pass; nothing arrives of itself.
func TestInOrder(t *testing.T) {
	for side := range 2 {
		n, other := dialled(t, 1), 1-side
		ok(t, write(n, 0, side, "abc"), write(n, 0, side, ""), n.Write(0, side, nil), write(n, 0, side, "de"))
		wantUnder(t, n, 0, side, 5)
		wantUnder(t, n, 0, other, 0)
		wantRead(t, n, 0, other, "", false)
		wantPass(t, n, 0, side, 0, 0)
		wantRead(t, n, 0, other, "", false)
		wantPass(t, n, 0, side, 1, 1)
		wantPass(t, n, 0, side, 3, 3)
		wantUnder(t, n, 0, side, 1)
		wantRead(t, n, 0, side, "", false)
		ok(t, write(n, 0, side, "fgh"))
		wantUnder(t, n, 0, side, 4)
		wantRead(t, n, 0, other, "abcd", false)
		wantRead(t, n, 0, other, "", false)
		wantPass(t, n, 0, side, 4, 4)
		wantPass(t, n, 0, side, 4, 0)
		ok(t, write(n, 0, side, "i"))
		wantPass(t, n, 0, side, 100, 1)
		wantUnder(t, n, 0, side, 0)
		wantRead(t, n, 0, other, "efghi", false)
	}
}

// P4.7: the sides' bytes don't mix, nor do connections'.
func TestApart(t *testing.T) {
	n := dialled(t, 3)
	for conn := range 2 {
		ok(t, write(n, conn, 0, "from0"), write(n, conn, 1, "one"))
	}
	ok(t, n.Close(0, 0), n.Refuse("a", 1))
	wantPass(t, n, 0, 0, 9, 5)
	wantPass(t, n, 1, 1, 2, 2)
	wantUnder(t, n, 0, 0, 0)
	wantUnder(t, n, 0, 1, 3)
	wantUnder(t, n, 1, 0, 5)
	wantUnder(t, n, 1, 1, 1)
	wantRead(t, n, 0, 0, "", false)
	wantRead(t, n, 0, 1, "from0", true)
	wantRead(t, n, 1, 0, "on", false)
	wantRead(t, n, 1, 1, "", false)
	ok(t, n.Cut(0))
	wantPass(t, n, 1, 0, 9, 5)
	wantPass(t, n, 1, 1, 9, 1)
	wantRead(t, n, 1, 0, "e", false)
	wantRead(t, n, 1, 1, "from0", false)
	for side := range 2 {
		wantUnder(t, n, 2, side, 0)
		wantRead(t, n, 2, side, "", false)
	}
}

// P4.3, P4.4: a close arrives with the Pass behind which nothing is under way, not ahead of it.
func TestCloseBehindBytes(t *testing.T) {
	for side := range 2 {
		n, other := dialled(t, 1), 1-side
		ok(t, write(n, 0, side, "abc"), n.Close(0, side))
		wantUnder(t, n, 0, side, 3)
		wantRead(t, n, 0, other, "", false)
		wantPass(t, n, 0, side, 0, 0)
		wantRead(t, n, 0, other, "", false)
		wantPass(t, n, 0, side, 2, 2)
		wantRead(t, n, 0, other, "ab", false)
		wantPass(t, n, 0, other, 5, 0)
		wantRead(t, n, 0, other, "", false)
		wantPass(t, n, 0, side, 1, 1)
		wantRead(t, n, 0, side, "", false)
		wantRead(t, n, 0, other, "c", true)
		wantRead(t, n, 0, other, "", true)
		wantPass(t, n, 0, side, 1, 0)
		wantPass(t, n, 0, side, 0, 0)
		wantRead(t, n, 0, other, "", true)
	}
}

// P4.3: a Pass of nothing lets a close arrive: of a side that wrote nothing, and of one all of whose bytes had arrived.
func TestCloseByAPassOfNothing(t *testing.T) {
	for side := range 2 {
		for _, p := range []string{"", "abc"} {
			n, other := dialled(t, 1), 1-side
			ok(t, write(n, 0, side, p))
			wantPass(t, n, 0, side, 7, len(p))
			ok(t, n.Close(0, side))
			wantRead(t, n, 0, other, p, false)
			wantPass(t, n, 0, other, 0, 0)
			wantRead(t, n, 0, other, "", false)
			wantPass(t, n, 0, side, 0, 0)
			wantRead(t, n, 0, side, "", false)
			wantRead(t, n, 0, other, "", true)
		}
	}
}

// P4.4: an end that has arrived is told with bytes that arrived ahead of it and were not read.
func TestEndWithBytes(t *testing.T) {
	n := dialled(t, 1)
	ok(t, write(n, 0, 0, "ab"))
	wantPass(t, n, 0, 0, 2, 2)
	ok(t, n.Close(0, 0))
	wantPass(t, n, 0, 0, 0, 0)
	wantRead(t, n, 0, 1, "ab", true)
}

// P4.2: a side that has closed still reads, and the other still writes.
func TestClosedOnOneSide(t *testing.T) {
	for side := range 2 {
		n, other := dialled(t, 1), 1-side
		ok(t, n.Close(0, side))
		for range 2 {
			wantErr(t, "Write", write(n, 0, side, "x"), api.ErrEnded)
			wantErr(t, "Write of nothing", n.Write(0, side, nil), api.ErrEnded)
			wantErr(t, "Close", n.Close(0, side), api.ErrEnded)
			wantUnder(t, n, 0, side, 0)
			wantPass(t, n, 0, side, 5, 0)
		}
		ok(t, write(n, 0, other, "abc"))
		wantPass(t, n, 0, other, 2, 2)
		wantRead(t, n, 0, side, "ab", false)
		ok(t, n.Close(0, other))
		wantPass(t, n, 0, other, 2, 1)
		wantRead(t, n, 0, side, "c", true)
		wantErr(t, "Close", n.Close(0, other), api.ErrEnded)
		wantRead(t, n, 0, other, "", true)
	}
}

// wantCut: everything that may be asked of a connection that is cut says so, with nothing beside it.
func wantCut(t *testing.T, n *net.Net, conn int) {
	t.Helper()
	wantErr(t, "Cut", n.Cut(conn), api.ErrReset)
	for side := range 2 {
		wantErr(t, "Write", write(n, conn, side, "x"), api.ErrReset)
		wantErr(t, "Write of nothing", n.Write(conn, side, nil), api.ErrReset)
		wantErr(t, "Close", n.Close(conn, side), api.ErrReset)
		for _, most := range []int{0, 1, 100} {
			if k, e := n.Pass(conn, side, most); k != 0 || e != api.ErrReset {
				t.Errorf("Pass: %d, error %d", k, int(e))
			}
		}
		if p, end, e := n.Read(conn, side); len(p) != 0 || end || e != api.ErrReset {
			t.Errorf("Read: %q, %v, error %d", p, end, int(e))
		}
		wantUnder(t, n, conn, side, 0)
	}
}

// P4.5: nothing of it is under way or there to be read; it is still counted, and no other one is.
func TestCut(t *testing.T) {
	for side := range 2 {
		n := dialled(t, 3)
		for conn := range 3 {
			ok(t, write(n, conn, side, "abc"), write(n, conn, 1-side, "d"), n.Close(conn, side))
			wantPass(t, n, conn, side, 2, 2)
			wantPass(t, n, conn, 1-side, 1, 1)
		}
		ok(t, n.Cut(1))
		for range 2 {
			wantCut(t, n, 1)
		}
		if n.Conns() != 3 {
			t.Errorf("%d connections", n.Conns())
		}
		for _, conn := range []int{0, 2} {
			wantPass(t, n, conn, side, 2, 1)
			wantRead(t, n, conn, 1-side, "abc", true)
			wantRead(t, n, conn, side, "d", false)
		}
		wantAccept(t, n, "a", 0, true)
		wantAccept(t, n, "a", 2, true)
		wantDial(t, n, "a", 3, api.OK)
		wantCut(t, n, 1)
	}
}

// P4.5: one that is just dialled, one that both have closed, one whose closes have arrived.
func TestCutAtAnyTime(t *testing.T) {
	n := dialled(t, 3)
	for conn := 1; conn < 3; conn++ {
		ok(t, n.Close(conn, 0), n.Close(conn, 1))
	}
	wantPass(t, n, 2, 0, 0, 0)
	wantPass(t, n, 2, 1, 0, 0)
	for conn := range 3 {
		ok(t, n.Cut(conn))
		wantCut(t, n, conn)
	}
	wantAccept(t, n, "a", 0, false)
}
