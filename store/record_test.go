package store_test

import (
	"math"
	"math/rand"
	"testing"

	"turnpike/api"
	"turnpike/store"
)

// wantNone: bytes that are no version's record.
func wantNone(t *testing.T, what string, r []byte) {
	t.Helper()
	if n, text, e := store.Read(r); n != 0 || text != "" || e != api.ErrStore {
		t.Errorf("%s: Read: %d, %.20q, %v", what, n, text, e)
	}
}

// P7.4: the number in eight bytes, the highest first, and the text.
func TestRecord(t *testing.T) {
	for _, x := range []struct {
		number int
		text   string
		want   string
	}{
		{1, "a", "\x00\x00\x00\x00\x00\x00\x00\x01a"},
		{1, "", "\x00\x00\x00\x00\x00\x00\x00\x01"},
		{255, "b", "\x00\x00\x00\x00\x00\x00\x00\xffb"},
		{256, "c", "\x00\x00\x00\x00\x00\x00\x01\x00c"},
		{0x12345, "\x00\xff", "\x00\x00\x00\x00\x00\x01\x23\x45\x00\xff"},
		{api.MaxVersions - 1, "d", "\x00\x00\x00\x00\x00\x0f\xff\xffd"},
		{api.MaxVersions, "e", "\x00\x00\x00\x00\x00\x10\x00\x00e"},
		{2, long(api.MaxText), "\x00\x00\x00\x00\x00\x00\x00\x02" + long(api.MaxText)},
	} {
		r, e := store.Record(x.number, x.text)
		if string(r) != x.want || e != api.OK {
			t.Errorf("Record(%d, %.20q): %.40x, %v", x.number, x.text, r, e)
		}
		if n, text, e := store.Read([]byte(x.want)); n != x.number || text != x.text || e != api.OK {
			t.Errorf("Read(%.40x): %d, %.20q, %v", x.want, n, text, e)
		}
	}
}

// P7.4: the number comes first.
func TestRecordRefused(t *testing.T) {
	for _, n := range []int{0, -1, math.MinInt, api.MaxVersions + 1, math.MaxInt} {
		for _, size := range []int{0, 1, api.MaxText, api.MaxText + 1} {
			if r, e := store.Record(n, long(size)); len(r) != 0 || e != api.ErrArg {
				t.Errorf("Record(%d, %d bytes): %.20x, %v", n, size, r, e)
			}
		}
	}
	for _, n := range []int{1, 2, api.MaxVersions} {
		for _, size := range []int{api.MaxText + 1, api.MaxText + 9, 1 << 20} {
			if r, e := store.Record(n, long(size)); len(r) != 0 || e != api.ErrLong {
				t.Errorf("Record(%d, %d bytes): %.20x, %v", n, size, r, e)
			}
		}
	}
}

// P7.4: bytes that are none's record: too few, too many, a number that may not be.
func TestReadNone(t *testing.T) {
	one := "\x00\x00\x00\x00\x00\x00\x00\x01"
	wantNone(t, "nil", nil)
	for n := range 8 {
		wantNone(t, "too few", []byte(one[:n]))
		wantNone(t, "too few", []byte(one[8-n:]))
	}
	wantNone(t, "too many", []byte(one+long(api.MaxText+1)))
	wantNone(t, "far too many", []byte(one+long(1<<18)))
	wantNone(t, "the number 0", make([]byte, 8))
	wantNone(t, "the number 0, a text", make([]byte, 100))
	wantNone(t, "past the last number", []byte{0, 0, 0, 0, 0, 16, 0, 1})
	wantNone(t, "all bits", []byte{255, 255, 255, 255, 255, 255, 255, 255})
	for bit := 21; bit < 64; bit++ { // a number that is right but for one bit that is too high
		r := []byte(one + "a")
		r[7-bit/8] |= 1 << (bit % 8)
		wantNone(t, "a bit too high", r)
	}
}

// P7.4: whatever is read is the record of what was read.
func TestThereAndBack(t *testing.T) {
	r := rand.New(rand.NewSource(1))
	for range 20000 {
		b := make([]byte, r.Intn(20))
		r.Read(b)
		for i := range min(len(b), 5+r.Intn(3)) {
			b[i] = 0
		}
		n, text, e := store.Read(b)
		if e != api.OK {
			wantNone(t, "none", b)
			if _, e := store.Record(n, text); e != api.ErrArg {
				t.Errorf("%x: %v", b, e)
			}
			continue
		}
		if back, e := store.Record(n, text); string(back) != string(b) || e != api.OK {
			t.Errorf("%x: %d, %q: %x, %v", b, n, text, back, e)
		}
	}
}
