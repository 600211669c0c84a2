package wal_test

import (
	"runtime"
	"slices"
	"testing"

	"turnpike/api"
	"turnpike/disk"
	"turnpike/spare"
	"turnpike/wal"
)

// P6.8: what is handed in is neither changed, the spare room behind it neither, nor kept.
func TestHandedIn(t *testing.T) {
	d := disk.New(1000)
	l := open(t, d, 30)
	var lists [][]byte
	want := []string{"abc", "", "0123456789", "", "longer than the limit, as it is"}
	for _, w := range want {
		p, all := spare.List([]byte(w), 0xa5)
		before := slices.Clone(all)
		if _, e := l.Append(p); e != api.OK {
			t.Fatal(e)
		}
		if !slices.Equal(all, before) {
			t.Errorf("%q was changed: %q", w, all)
		}
		lists = append(lists, all)
	}
	for _, all := range lists {
		spare.Fill(all, 0x5a)
	}
	wantLog(t, "what was handed in changed", l, 0, want...)
	wantLog(t, "what was handed in changed", open(t, d, 30), 0, want...)
	if n, e := l.Append(nil); n != 5 || e != api.OK {
		t.Errorf("nil: %d, %v", n, e)
	}
	wantLog(t, "nil", l, 0, append(want, "")...)
}

// P6.8: what is answered is new memory: filled, with all its spare room, it changes neither the log, nor another answer.
func TestAnswersAreNewMemory(t *testing.T) {
	d := disk.New(1000)
	want := []string{"abc", "", "0123456789", "x", "yz"}
	made := open(t, d, 30)
	add(t, made, want...)
	for _, l := range []*wal.Log{made, open(t, d.Copy(), 30)} {
		for i := range want {
			p, _ := l.Get(i)
			again, _ := l.Get(i)
			all := l.All()
			spare.Fill(p, 0x5a)
			spare.Fill(all[i], 0x5b)
			for k := range want {
				if k != i && string(all[k]) != want[k] {
					t.Errorf("filling record %d of all changed record %d: %q", i, k, all[k])
				}
			}
			if string(again) != want[i] {
				t.Errorf("answers share memory: %q", again)
			}
			spare.Fill(all, nil)
			wantLog(t, "answers filled", l, 0, want...)
		}
		add(t, l, "more")
		wantLog(t, "gone on", l, 0, append(want, "more")...)
	}
	wantLog(t, "opened again", open(t, d, 30), 0, append(want, "more")...)
}

// Two logs over one disk's copies have nothing to do with each other.
func TestLogsHoldTheirOwn(t *testing.T) {
	d := disk.New(1000)
	l := open(t, d, 30)
	add(t, l, "a", "b", "c")
	c := open(t, d.Copy(), 30)
	ok(t, c.Drop(1))
	add(t, c, "B")
	wantLog(t, "the one", l, 0, "a", "b", "c")
	wantLog(t, "the other", c, 0, "a", "B")
}

// aFile: so many bytes a disk may hold for a file that was long once: what lasts of it, and what it is now.
const aFile = 5 * api.MaxFile / 2

func heap() int {
	var m runtime.MemStats
	runtime.GC()
	runtime.GC()
	runtime.ReadMemStats(&m)
	return int(m.HeapAlloc)
}

// P0.4: nothing is kept of records that were dropped or trimmed, or refused.
func TestNothingMoreIsKept(t *testing.T) {
	big := make([]byte, 100000)
	for what, rid := range map[string]func(l *wal.Log){
		"dropped":      func(l *wal.Log) { ok(t, l.Drop(l.First()+1)) },
		"dropped, all": func(l *wal.Log) { ok(t, l.Drop(l.First())) },
		"trimmed": func(l *wal.Log) {
			if _, e := l.Append(nil); e != api.OK {
				t.Fatal(e)
			}
			ok(t, l.Trim(l.Next()))
		},
	} {
		for _, limit := range []int{100000, 1 << 20} {
			d := disk.New(1 << 22)
			l := open(t, d, limit)
			before := heap()
			for range 30 {
				for range 5 {
					if _, e := l.Append(big); e != api.OK {
						t.Fatal(e)
					}
				}
				ok(t, l.Sync())
				rid(l)
				if what == "trimmed" && limit > 100000 {
					ok(t, l.Drop(l.First()))
				}
			}
			if more := heap() - before; more > aFile {
				t.Errorf("%s, the limit %d: %d bytes more are kept", what, limit, more)
			}
			runtime.KeepAlive(l)
		}
	}
}

// P0.4: of many segments that are removed at once nothing is kept.
func TestNoSegmentIsKept(t *testing.T) {
	for what, rid := range map[string]func(l *wal.Log) api.Errno{
		"dropped": func(l *wal.Log) api.Errno { return l.Drop(1) },
		"trimmed": func(l *wal.Log) api.Errno { return l.Trim(l.Next()) },
	} {
		d := disk.New(1 << 23)
		l := open(t, d, 1)
		before, big := heap(), make([]byte, 100000)
		for range 60 {
			if _, e := l.Append(big); e != api.OK {
				t.Fatal(e)
			}
		}
		ok(t, l.Sync(), rid(l))
		if more := heap() - before; more > aFile {
			t.Errorf("%s: %d bytes more are kept", what, more)
		}
		runtime.KeepAlive(l)
	}
}

// P0.4: of many records that are dropped nothing is kept, though they have no bytes.
func TestNoRoomIsKept(t *testing.T) {
	d := disk.New(1 << 22)
	l := open(t, d, 1<<20)
	before := heap()
	for range 100000 {
		if _, e := l.Append(nil); e != api.OK {
			t.Fatal(e)
		}
	}
	ok(t, l.Sync(), l.Drop(1))
	if more := heap() - before; more > aFile {
		t.Errorf("%d bytes more are kept", more)
	}
	runtime.KeepAlive(l)
}
