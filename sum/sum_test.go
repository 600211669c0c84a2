package sum_test

import (
	"bytes"
	"hash/crc32"
	"math/rand"
	"slices"
	"testing"

	"turnpike/api"
	"turnpike/sum"
)

// byTheRule is the sum as the chapter words it, bit by bit.
func byTheRule(p []byte) uint32 {
	c := ^uint32(0)
	for _, x := range p {
		c ^= uint32(x)
		for range 8 {
			low := c & 1
			c = (c &^ 1) >> 1
			if low == 1 {
				c ^= 0x82f63b78
			}
		}
	}
	return ^c
}

// byTheForm is a frame as the chapter words it, of payloads of any length: also of those that no record has.
func byTheForm(p []byte) []byte {
	n := len(p)
	size := []byte{byte(n >> 24), byte(n >> 16), byte(n >> 8), byte(n)}
	c := byTheRule(slices.Concat(size, p))
	return slices.Concat(size, []byte{byte(c >> 24), byte(c >> 16), byte(c >> 8), byte(c)}, p)
}

func noise(r *rand.Rand, n int) []byte {
	p := make([]byte, n)
	r.Read(p)
	return p
}

func frame(t *testing.T, p []byte) []byte {
	t.Helper()
	f, e := sum.Frame(p)
	if e != api.OK {
		t.Fatalf("Frame of %d bytes: %v", len(p), e)
	}
	return f
}

// row is the frames of payloads, one behind the other, and the place behind each.
func row(t *testing.T, payloads [][]byte) ([]byte, []int) {
	t.Helper()
	var b []byte
	var ends []int
	for _, p := range payloads {
		b = append(b, frame(t, p)...)
		ends = append(ends, len(b))
	}
	return b, ends
}

func same(a, b [][]byte) bool { return slices.EqualFunc(a, b, bytes.Equal) }

// wantHead holds Scan, and Each, against the payloads and the end of the head that are asked for.
func wantHead(t *testing.T, what string, b []byte, payloads [][]byte, end int) {
	t.Helper()
	l, n := sum.Scan(b)
	if !same(l, payloads) || n != end {
		t.Fatalf("%s: Scan tells %d records and %d bytes, not %d and %d", what, len(l), n, len(payloads), end)
	}
	var seen [][]byte
	last := 0
	for at, p := range sum.Each(b) {
		if at != last+8+len(p) {
			t.Fatalf("%s: Each tells the place %d behind a record of %d bytes that begins at %d", what, at, len(p), last)
		}
		seen, last = append(seen, p), at
	}
	if !same(seen, payloads) || last != end {
		t.Fatalf("%s: Each tells %d records and %d bytes, not %d and %d", what, len(seen), last, len(payloads), end)
	}
}

func wantTorn(t *testing.T, what string, b []byte) {
	t.Helper()
	if p, n, e := sum.Next(b); len(p) != 0 || n != 0 || e != api.ErrTorn {
		t.Fatalf("%s: Next answers %d bytes, %d, %v", what, len(p), n, e)
	}
}

// P1.1.
func TestCrcOfExamples(t *testing.T) {
	for _, c := range []struct {
		text string
		want uint32
	}{
		{"123456789", 0xe3069283},
		{"", 0},
		{"\x00", 0x527d5351},
		{"\x00\x00\x00\x00\x00\x00\x00\x00\x00\x00\x00\x00\x00\x00\x00\x00\x00\x00\x00\x00\x00\x00\x00\x00\x00\x00\x00\x00\x00\x00\x00\x00", 0x8a9136aa},
	} {
		if s := sum.Crc([]byte(c.text)); s != c.want {
			t.Errorf("Crc of %q: %08x, not %08x", c.text, s, c.want)
		}
	}
	if s := sum.Crc(nil); s != 0 {
		t.Errorf("Crc of nil: %08x", s)
	}
}

// P1.1: every byte, and bytes of all lengths up to some, by the rule and by the library's own CRC-32C.
func TestCrcByTheRule(t *testing.T) {
	castagnoli := crc32.MakeTable(crc32.Castagnoli)
	hold := func(p []byte) {
		s := sum.Crc(p)
		if s != byTheRule(p) || s != crc32.Checksum(p, castagnoli) {
			t.Fatalf("Crc of %x: %08x", p, s)
		}
	}
	for x := range 256 {
		hold([]byte{byte(x)})
		hold([]byte{byte(x), byte(255 - x)})
	}
	r := rand.New(rand.NewSource(1))
	for n := range 300 {
		hold(noise(r, n))
	}
	hold(noise(r, sum.MaxRecord+1))
}

// P1.1: any c goes, for it is the sum of some four bytes, which the rule run backwards finds.
func TestMoreOfAnyNumber(t *testing.T) {
	r := rand.New(rand.NewSource(2))
	for _, c := range []uint32{0, 1, 1 << 31, 0x7fffffff, 0xffffffff, r.Uint32(), r.Uint32(), r.Uint32()} {
		p := fourOfSum(c)
		if s := sum.Crc(p); s != c {
			t.Fatalf("Crc of %x: %08x, not %08x", p, s, c)
		}
		if sum.More(c, nil) != c || sum.More(c, []byte{}) != c {
			t.Errorf("More(%08x, nothing): %08x", c, sum.More(c, nil))
		}
		for n := range 20 {
			q := noise(r, n)
			if s, want := sum.More(c, q), byTheRule(slices.Concat(p, q)); s != want {
				t.Errorf("More(%08x, %x): %08x, not %08x", c, q, s, want)
			}
		}
	}
}

// fourOfSum is the four bytes whose sum is c.
func fourOfSum(c uint32) []byte {
	c = ^c
	for range 32 {
		if c>>31 == 1 {
			c = (c^0x82f63b78)<<1 | 1
		} else {
			c <<= 1
		}
	}
	c = ^c
	return []byte{byte(c), byte(c >> 8), byte(c >> 16), byte(c >> 24)}
}

// P1.7.
func TestSumOfParts(t *testing.T) {
	r := rand.New(rand.NewSource(3))
	p := append([]byte("123456789"), noise(r, 100)...)
	whole := sum.Crc(p)
	for i := range len(p) + 1 {
		if s := sum.More(sum.Crc(p[:i]), p[i:]); s != whole {
			t.Errorf("parted at %d: %08x, not %08x", i, s, whole)
		}
		for j := i; j <= len(p); j++ {
			if s := sum.More(sum.More(sum.Crc(p[:i]), p[i:j]), p[j:]); s != whole {
				t.Fatalf("parted at %d and %d: %08x, not %08x", i, j, s, whole)
			}
		}
	}
	if sum.Crc(nil) != 0 || sum.Crc([]byte{}) != 0 || sum.More(0, nil) != 0 || sum.More(0, p) != whole {
		t.Errorf("the sum of no bytes is not 0")
	}
}

// P1.2.
func TestFrameOfExamples(t *testing.T) {
	for _, c := range []struct {
		payload string
		want    []byte
	}{
		{"a", []byte{0, 0, 0, 1, 0xc5, 0x7d, 0xfe, 0x23, 'a'}},
		{"", []byte{0, 0, 0, 0, 0x48, 0x67, 0x4b, 0xc7}},
	} {
		if f := frame(t, []byte(c.payload)); !bytes.Equal(f, c.want) || !bytes.Equal(f, byTheForm([]byte(c.payload))) {
			t.Errorf("Frame of %q: %x, not %x", c.payload, f, c.want)
		}
	}
	if f := frame(t, nil); !bytes.Equal(f, byTheForm(nil)) {
		t.Errorf("Frame of nil: %x", f)
	}
}

// P1.2: lengths of one, two and three bytes, the edge, and what is past it.
func TestFrameByTheForm(t *testing.T) {
	r := rand.New(rand.NewSource(4))
	for _, n := range []int{1, 2, 7, 8, 9, 255, 256, 257, 65535, 65536, 65537, sum.MaxRecord - 1, sum.MaxRecord} {
		p := noise(r, n)
		if f := frame(t, p); !bytes.Equal(f, byTheForm(p)) {
			t.Errorf("Frame of %d bytes: begins with %x", n, f[:8])
		}
	}
	for _, n := range []int{sum.MaxRecord + 1, sum.MaxRecord + 2, 2 * sum.MaxRecord, 1 << 24} {
		if f, e := sum.Frame(make([]byte, n)); len(f) != 0 || e != api.ErrLong {
			t.Errorf("Frame of %d bytes: %d bytes, %v", n, len(f), e)
		}
	}
	if sum.MaxRecord != 131072 || api.ErrLong != 3 || api.ErrTorn != 10 {
		t.Errorf("the chapter's numbers: %d, %d, %d", sum.MaxRecord, api.ErrLong, api.ErrTorn)
	}
}

// P1.3.
func TestNextOfFrames(t *testing.T) {
	r := rand.New(rand.NewSource(5))
	for _, n := range []int{0, 1, 2, 8, 255, 256, 65536, sum.MaxRecord - 1, sum.MaxRecord} {
		p := noise(r, n)
		f := frame(t, p)
		for _, behind := range [][]byte{nil, {7}, {0, 0, 0, 0, 0, 0, 0, 0, 0}, f} {
			got, took, e := sum.Next(slices.Concat(f, behind))
			if !bytes.Equal(got, p) || took != 8+n || e != api.OK {
				t.Errorf("Next of %d bytes' frame with %d behind: %d bytes, %d, %v", n, len(behind), len(got), took, e)
			}
		}
	}
}

// P1.3: what no frame begins.
func TestNextOfTorn(t *testing.T) {
	wantTorn(t, "nil", nil)
	wantTorn(t, "none", []byte{})
	r := rand.New(rand.NewSource(6))
	for _, n := range []int{0, 1, 30} {
		f := frame(t, noise(r, n))
		for i := range f {
			wantTorn(t, "cut", f[:i])
		}
		for i := range 8 * len(f) {
			g := slices.Clone(f)
			g[i/8] ^= 1 << (i % 8)
			wantTorn(t, "a bit turned", g)
		}
	}
	for n := range 20 {
		wantTorn(t, "noughts", make([]byte, n))
		wantTorn(t, "ones", bytes.Repeat([]byte{0xff}, n))
	}
	f := frame(t, make([]byte, sum.MaxRecord))
	wantTorn(t, "the longest without its last byte", f[:len(f)-1])
}

// P1.3: a length that says too much: more than a record has, the sum being right; more than there is.
func TestNextOfLengths(t *testing.T) {
	for _, n := range []int{sum.MaxRecord + 1, sum.MaxRecord + 2, 1 << 18} {
		wantTorn(t, "longer than a record", byTheForm(make([]byte, n)))
		wantTorn(t, "longer than a record, and more behind", append(byTheForm(make([]byte, n)), 1, 2, 3))
	}
	f := frame(t, []byte("abc"))
	for _, size := range [][4]byte{{0, 0, 0, 2}, {0, 0, 0, 4}, {0, 2, 0, 0}, {0, 2, 0, 1}, {1, 0, 0, 3}, {0x7f, 0xff, 0xff, 0xff}, {0x80, 0, 0, 0}, {0x80, 0, 0, 3}, {0xff, 0xff, 0xff, 0xf8}, {0xff, 0xff, 0xff, 0xff}} {
		copy(f, size[:])
		wantTorn(t, "another length", f)
		wantTorn(t, "another length, and more behind", slices.Concat(f, make([]byte, 40)))
	}
	for n := range 8 { // the sum being right of what is there, the length another
		p := make([]byte, n)
		for _, size := range [][]byte{{0, 0, 0, byte(n + 1)}, {0, 0, 1, byte(n)}, {0, 1, 0, byte(n)}, {0, 2, 0, byte(n + 1)}, {1, 0, 0, byte(n)}, {0x80, 0, 0, byte(n)}, {0xff, 0xff, 0xff, byte(n)}} {
			c := byTheRule(slices.Concat(size, p))
			wantTorn(t, "more than there is", slices.Concat(size, []byte{byte(c >> 24), byte(c >> 16), byte(c >> 8), byte(c)}, p))
		}
	}
}

// P1.3: the sum is also over the length, and stands behind it.
func TestNextOfOtherSums(t *testing.T) {
	p := []byte("payload")
	size := []byte{0, 0, 0, byte(len(p))}
	four := func(c uint32) []byte { return []byte{byte(c >> 24), byte(c >> 16), byte(c >> 8), byte(c)} }
	right := byTheRule(slices.Concat(size, p))
	for what, b := range map[string][]byte{
		"of the payload alone":      slices.Concat(size, four(byTheRule(p)), p),
		"the payload first":         slices.Concat(size, four(byTheRule(slices.Concat(p, size))), p),
		"its bits turned":           slices.Concat(size, four(^right), p),
		"0":                         slices.Concat(size, four(0), p),
		"the low byte first":        slices.Concat(size, []byte{byte(right), byte(right >> 8), byte(right >> 16), byte(right >> 24)}, p),
		"ahead of the length":       slices.Concat(four(right), size, p),
		"behind the payload":        slices.Concat(size, p, four(right)),
		"the length low byte first": slices.Concat([]byte{byte(len(p)), 0, 0, 0}, four(right), p),
	} {
		wantTorn(t, "a sum "+what, b)
	}
}
