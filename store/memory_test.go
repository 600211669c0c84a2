package store_test

import (
	"runtime"
	"slices"
	"testing"
	"unsafe"

	"turnpike/api"
	"turnpike/disk"
	"turnpike/spare"
	"turnpike/store"
)

// P7.8: a text that is handed in is not kept: its bytes, changed below it, change nothing; neither those of an answer.
func TestTextsAreNotShared(t *testing.T) {
	d := disk.New(1 << 20)
	s := open(t, d)
	texts := []string{"abc", "0123456789", "z"}
	for _, text := range texts {
		b := []byte(text)
		put(t, s, unsafe.String(unsafe.SliceData(b), len(b)))
		if string(b) != text {
			t.Errorf("%q was changed: %q", text, b)
		}
		spare.Fill(b, '!')
	}
	for _, z := range []*store.Store{s, open(t, d.Copy())} {
		wantKept(t, "what was handed in changed", z, 3, texts...)
		for n := 1; n <= 3; n++ {
			one, _ := z.Get(n)
			two, _ := z.Get(n)
			if unsafe.StringData(one) == unsafe.StringData(two) {
				t.Errorf("version %d: two answers share memory", n)
			}
		}
		put(t, z, "more")
		wantKept(t, "gone on", z, 4, append(slices.Clone(texts), "more")...)
	}
}

// P7.8: what Kept answers is new memory, the spare room behind it too.
func TestKeptIsNewMemory(t *testing.T) {
	s := open(t, disk.New(1<<20))
	for n := range 12 {
		k, again := s.Kept(), s.Kept()
		spare.Fill(k, -1)
		wantKept(t, "filled", s, n, numbered(max(1, n-7), n)...)
		for i, x := range again {
			if x != max(1, n-7)+i {
				t.Errorf("two answers share memory: %v", again)
			}
		}
		put(t, s, numbered(n+1, n+1)...)
	}
}

// P7.8: Record and Read: neither changes, nor keeps, nor hands out what it is given.
func TestRecordsAreNewMemory(t *testing.T) {
	b := []byte("a text")
	r, e := store.Record(5, unsafe.String(unsafe.SliceData(b), len(b)))
	ok(t, e)
	other, e := store.Record(6, "another")
	ok(t, e)
	spare.Fill(b, '!')
	if string(r) != "\x00\x00\x00\x00\x00\x00\x00\x05a text" {
		t.Errorf("it is the text's memory: %q", r)
	}
	spare.Fill(r, '?')
	if string(other) != "\x00\x00\x00\x00\x00\x00\x00\x06another" || string(b[:2]) != "!!" {
		t.Errorf("answers share memory: %q, %q", other, b)
	}

	for _, x := range []string{string(other), "", "short", "\x00\x00\x00\x00\x00\x00\x00\x00none"} {
		list, all := spare.List([]byte(x), 0xa5)
		before := slices.Clone(all)
		n, text, e := store.Read(list)
		if !slices.Equal(all, before) {
			t.Errorf("%q was changed: %q", x, all)
		}
		spare.Fill(all, 0x5a)
		if e == api.OK && (n != 6 || text != "another") {
			t.Errorf("it is the record's memory: %q", text)
		}
	}
}

func heap() int {
	var m runtime.MemStats
	runtime.GC()
	runtime.GC()
	runtime.ReadMemStats(&m)
	return int(m.HeapAlloc)
}

// P0.4: nothing is kept of versions that are not kept any more, or were refused.
func TestNothingMoreIsKept(t *testing.T) {
	d := disk.New(1 << 20)
	s := open(t, d)
	before := heap()
	for range 200 {
		put(t, s, long(api.MaxText))
		wantRefused(t, "too long", s, long(api.MaxText+1), api.ErrLong)
	}
	// the kept ones: here, in the log, and on the disk, where some spare room is, too
	if more := heap() - before; more > 8*store.Keeps*api.MaxText {
		t.Errorf("%d bytes more are kept", more)
	}
	runtime.KeepAlive(s)
	runtime.KeepAlive(d)
}

// Two stores over one disk's copies have nothing to do with each other.
func TestStoresHoldTheirOwn(t *testing.T) {
	d := disk.New(1 << 20)
	s := open(t, d)
	put(t, s, "a")
	c := open(t, d.Copy())
	put(t, c, "B", "C")
	put(t, s, "b")
	wantKept(t, "the one", s, 2, "a", "b")
	wantKept(t, "the other", c, 3, "a", "B", "C")
}
