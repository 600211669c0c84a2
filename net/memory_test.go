package net_test

import (
	"runtime"
	"slices"
	"strconv"
	"testing"

	"turnpike/api"
	"turnpike/net"
	"turnpike/spare"
)

// P4.8: what is handed in is not changed, the spare room behind it neither.
func TestHandedInIsNotChanged(t *testing.T) {
	for side := range 2 {
		n := dialled(t, 1)
		for range 3 {
			p, all := spare.List([]byte("abc"), 0xa5)
			before := slices.Clone(all)
			ok(t, n.Write(0, side, p), write(n, 0, side, "defgh"))
			wantPass(t, n, 0, side, 4, 4)
			ok(t, write(n, 0, side, "ij"))
			wantPass(t, n, 0, side, 99, 6)
			got, _, _ := n.Read(0, 1-side)
			spare.Fill(got, 0x5a)
			ok(t, write(n, 0, side, "k"))
			wantPass(t, n, 0, side, 99, 1)
			wantRead(t, n, 0, 1-side, "k", false)
			if !slices.Equal(all, before) {
				t.Errorf("bytes were changed: %q", all)
			}
		}
	}
}

// P4.8: what is handed in is not kept.
func TestHandedInIsNotKept(t *testing.T) {
	for _, most := range []int{0, 1, 3} {
		n := dialled(t, 1)
		p, _ := spare.List([]byte("abc"), 0xa5)
		ok(t, n.Write(0, 0, p))
		spare.Fill(p, 0x5a)
		wantPass(t, n, 0, 0, most, most)
		spare.Fill(p, 0x5b)
		ok(t, write(n, 0, 0, "d"))
		spare.Fill(p, 0x5c)
		wantPass(t, n, 0, 0, 9, 4-most)
		spare.Fill(p, 0x5d)
		wantRead(t, n, 0, 1, "abcd", false)
	}
}

// P4.8: what is answered is new memory: filled, it changes neither what is under way, nor what arrived, nor what was answered before.
func TestAnswersAreNewMemory(t *testing.T) {
	for side := range 2 {
		n, other := dialled(t, 1), 1-side
		var got [][]byte
		var want []string
		for i := range 60 {
			ok(t, write(n, 0, side, "some "+strconv.Itoa(i)+" bytes"), write(n, 0, other, "back"))
			wantPass(t, n, 0, side, i%7, i%7)
			wantPass(t, n, 0, other, i%3, i%3)
			p, _, e := n.Read(0, other)
			ok(t, e)
			got, want = append(got, p), append(want, string(p))
			for k := range got {
				if string(got[k]) != want[k] {
					t.Fatalf("answer %d changed: %q, want %q", k, got[k], want[k])
				}
			}
			if i%2 == 0 {
				spare.Fill(got[i], byte(i))
				want[i] = string(got[i])
			}
		}
	}
}

// P4.8: an answer that is filled, with all its spare room, while bytes go on.
func TestAnswersThatAreFilled(t *testing.T) {
	n := dialled(t, 1)
	var all, read []byte
	for i := range 500 {
		p := []byte(strconv.Itoa(i * i))
		all = append(all, p...)
		ok(t, n.Write(0, 0, p))
		_, e := n.Pass(0, 0, i%5)
		ok(t, e)
		if i%3 == 0 {
			got, _, e := n.Read(0, 1)
			ok(t, e)
			read = append(read, got...)
			spare.Fill(got, 0xff)
		}
	}
	wantPass(t, n, 0, 0, api.MaxFile, n.Under(0, 0))
	got, _, _ := n.Read(0, 1)
	if string(read)+string(got) != string(all) {
		t.Errorf("%q %q, want %q", read, got, all)
	}
}

// P4.8: what is read and handed in again is the writer's still.
func TestReadAndWritten(t *testing.T) {
	n := dialled(t, 2)
	ok(t, write(n, 0, 0, "abcdef"))
	wantPass(t, n, 0, 0, 3, 3)
	p, _, _ := n.Read(0, 1)
	ok(t, n.Write(1, 0, p), n.Write(0, 1, p), n.Write(0, 0, p))
	spare.Fill(p, 'x')
	for _, x := range []struct {
		conn, side int
		want       string
	}{{1, 0, "abc"}, {0, 1, "abc"}, {0, 0, "defabc"}} {
		wantPass(t, n, x.conn, x.side, 99, len(x.want))
		wantRead(t, n, x.conn, 1-x.side, x.want, false)
	}
}

// P0.4: nothing is kept of bytes that were read, nor of a connection that is cut, nor of refusals that were taken back.
func TestNothingMoreIsKept(t *testing.T) {
	big := make([]byte, api.MaxFile)
	for what, turn := range map[string]func(n *net.Net, conn int){
		"read": func(n *net.Net, conn int) {
			ok(t, n.Write(conn, 0, big))
			wantPass(t, n, conn, 0, api.MaxFile, api.MaxFile)
			p, _, e := n.Read(conn, 1)
			if ok(t, e); len(p) != api.MaxFile {
				t.Errorf("%d bytes", len(p))
			}
		},
		"cut under way": func(n *net.Net, conn int) { ok(t, n.Write(conn, 1, big), n.Cut(conn)) },
		"cut, arrived": func(n *net.Net, conn int) {
			ok(t, n.Write(conn, 1, big))
			wantPass(t, n, conn, 1, api.MaxFile, api.MaxFile)
			ok(t, n.Cut(conn))
		},
		"refused": func(n *net.Net, conn int) {
			name := strconv.Itoa(conn) + string(big)
			ok(t, n.Refuse(name, 1))
			wantDial(t, n, name, -1, api.ErrRefused)
			ok(t, n.Refuse(name, 3), n.Refuse(name, 0))
		},
	} {
		n := dialled(t, 30)
		before := heap()
		for conn := range 30 {
			turn(n, conn)
		}
		if more := heap() - before; more > 10*api.MaxFile {
			t.Errorf("%s: %d bytes more are kept", what, more)
		}
		runtime.KeepAlive(n)
	}
}

// heap: how many bytes are held.
func heap() int {
	var m runtime.MemStats
	runtime.GC()
	runtime.ReadMemStats(&m)
	return int(m.HeapAlloc)
}
