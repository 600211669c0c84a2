package frames_test

import (
	"bytes"
	"encoding/binary"
	"math"
	"math/rand"
	"slices"
	"strings"
	"testing"

	"turnpike/api"
	"turnpike/frames"
)

// messageOf is what the chapter's table says of a payload, by how long it has to be.
func messageOf(p []byte) (frames.Message, bool) {
	is := true
	number := func(at int) int {
		n := binary.BigEndian.Uint64(p[at:])
		is = is && n <= 1<<62
		return int(n)
	}
	var m frames.Message
	switch {
	case len(p) >= 11 && p[0] == 1 && int(p[1]) == len(p)-10 && len(p)-10 <= 64:
		m = hello(string(p[2:len(p)-8]), number(len(p)-8))
	case len(p) >= 29 && p[0] == 2 && int(binary.BigEndian.Uint32(p[25:])) == len(p)-29 && len(p)-29 <= 65536:
		m = delta(number(1), number(9), number(17), string(p[29:]))
	case len(p) == 17 && p[0] == 3:
		m = ack(number(1), number(9))
	case len(p) == 19 && p[0] == 4 && (p[17] > 0 || p[18] > 0):
		m = nack(number(1), number(9), api.Errno(p[17])*256+api.Errno(p[18]))
	case len(p) == 9 && p[0] == 5:
		m = ping(number(1))
	default:
		is = false
	}
	if !is {
		return frames.Message{}, false
	}
	return m, true
}

// byTheWords is what P19.2 says of bytes.
func byTheWords(b []byte) (frames.Message, int, api.Errno) {
	if len(b) < 4 {
		return frames.Message{}, 0, api.ErrTorn
	}
	size := int(binary.BigEndian.Uint32(b))
	if size > maxRecord {
		return frames.Message{}, 0, api.ErrFrame
	}
	if len(b)-8 < size {
		return frames.Message{}, 0, api.ErrTorn
	}
	p := b[8 : 8+size]
	m, is := messageOf(p)
	if !is || !bytes.HasPrefix(b, framed(p)) {
		return frames.Message{}, 0, api.ErrFrame
	}
	return m, 8 + size, api.OK
}

// wantDecoded holds Decode against what is asked for.
func wantDecoded(t *testing.T, what string, b []byte, m frames.Message, size int, e api.Errno) {
	t.Helper()
	got, n, f := frames.Decode(b)
	if got != m || n != size || f != e {
		t.Fatalf("%s: Decode of %d bytes, %.60x: %s, %d, %v, want %s, %d, %v", what, len(b), b, brief(got), n, f, brief(m), size, e)
	}
}

func wantError(t *testing.T, what string, b []byte, e api.Errno) {
	t.Helper()
	wantDecoded(t, what, b, frames.Message{}, 0, e)
}

// wantByTheWords: P19.2, and P19.5: what Decode takes is Encode's frame of what it tells.
func wantByTheWords(t *testing.T, what string, b []byte) {
	t.Helper()
	m, size, e := byTheWords(b)
	wantDecoded(t, what, b, m, size, e)
	if e == api.OK && !bytes.Equal(frame(t, m), b[:size]) {
		t.Fatalf("%s: %x is not the frame of %s", what, b[:size], brief(m))
	}
}

// P19.2: the chapter's examples.
func TestDecodeOfExamples(t *testing.T) {
	wantError(t, "nil", nil, api.ErrTorn)
	wantError(t, "none", []byte{}, api.ErrTorn)
	wantError(t, "three", []byte{0, 2, 0}, api.ErrTorn)
	wantError(t, "three, whatever they say", []byte{255, 255, 255}, api.ErrTorn)
	wantError(t, "too long", []byte{0, 2, 0, 1}, api.ErrFrame)
	wantError(t, "the longest", []byte{0, 2, 0, 0}, api.ErrTorn)
	b := framed(payload(ping(1)))
	wantError(t, "without its last byte", b[:len(b)-1], api.ErrTorn)
	wantError(t, "no Kind", framed([]byte{6}), api.ErrFrame)
	wantDecoded(t, "whole", b, ping(1), len(b), api.OK)
}

// P19.5: whatever stands behind; P19.2: and whatever is not there yet.
func TestThereAndBack(t *testing.T) {
	r := rand.New(rand.NewSource(2))
	l := someMessages()
	for range 2000 {
		l = append(l, anyMessage(r))
	}
	for _, m := range l {
		b := frame(t, m)
		for _, behind := range [][]byte{nil, {0}, {5}, b, {255, 255, 255, 255, 255}, []byte(anyText(r, r.Intn(40)))} {
			wantDecoded(t, "there and back", slices.Concat(b, behind), m, len(b), api.OK)
		}
		wantDecoded(t, "all fields", frame(t, filled(m)), m, len(b), api.OK)
		for range 3 {
			wantError(t, "cut", b[:r.Intn(len(b))], api.ErrTorn)
		}
		wantError(t, "cut by one", b[:len(b)-1], api.ErrTorn)
	}
}

// P19.2: cut anywhere, spoilt or not: as long as it is not whole it is torn.
func TestDecodeOfCutFrames(t *testing.T) {
	for _, m := range []frames.Message{hello("name", 1), delta(1, 2, 3, "text"), ack(1, 2), nack(1, 2, 3), ping(1)} {
		b := frame(t, m)
		for n := range b {
			wantError(t, "cut", b[:n], api.ErrTorn)
			if n < 4 {
				continue
			}
			spoilt := slices.Clone(b)
			spoilt[n] ^= 1
			for k := range b {
				wantError(t, "spoilt, and cut", spoilt[:k], api.ErrTorn)
			}
			wantError(t, "spoilt", spoilt, api.ErrFrame)
			wantError(t, "spoilt, and more", append(spoilt, b...), api.ErrFrame)
		}
	}
}

// P19.2: the length says it from the fourth byte on; up to MaxRecord only a whole frame tells.
func TestDecodeOfLengths(t *testing.T) {
	for _, n := range []uint32{maxRecord + 1, maxRecord + 2, 1 << 18, 1 << 24, 0x00030000, 0x01000000, math.MaxInt32, 1 << 31, 1<<31 + 9, math.MaxUint32 - 8, math.MaxUint32 - 7, math.MaxUint32} {
		size := binary.BigEndian.AppendUint32(nil, n)
		for k := range 4 {
			wantError(t, "not all of a length", size[:k], api.ErrTorn)
		}
		for k := range 30 {
			wantError(t, "too long", append(slices.Clone(size), make([]byte, k)...), api.ErrFrame)
		}
	}
	for _, n := range []int{maxRecord + 1, maxRecord + 2} {
		wantError(t, "too long, and whole", framed(make([]byte, n)), api.ErrFrame)
	}
	for _, n := range []int{65566, 65567, maxRecord - 1, maxRecord} { // longer than any message
		p := append(payload(ping(1)), make([]byte, n)...)[:n]
		b := framed(p)
		for _, k := range []int{4, 5, 8, 17, 18, n, n + 7} {
			wantError(t, "long, and cut", b[:k], api.ErrTorn)
		}
		wantError(t, "long, and no message", b, api.ErrFrame)
		wantError(t, "long, and no message, and more", append(b, framed(payload(ping(1)))...), api.ErrFrame)
	}
}

// P19.2: a payload that is a byte longer or shorter than a message's, or has another Kind.
func TestDecodeOfOtherPayloads(t *testing.T) {
	wantError(t, "no payload", framed(nil), api.ErrFrame)
	for _, m := range []frames.Message{hello("name", 1), hello("n", 0), delta(1, 2, 3, "text"), delta(0, 0, 0, ""), ack(1, 2), nack(1, 2, 3), ping(1)} {
		p := payload(m)
		for n := range p {
			wantError(t, "too short", framed(p[:n]), api.ErrFrame)
		}
		for n := 1; n < 40; n++ {
			wantError(t, "too long", framed(append(slices.Clone(p), make([]byte, n)...)), api.ErrFrame)
		}
		for kind := range 256 {
			q := slices.Clone(p)
			q[0] = byte(kind)
			if kind == m.Kind {
				wantDecoded(t, "its Kind", framed(q), m, 8+len(q), api.OK)
			} else {
				wantByTheWords(t, "another Kind", framed(q))
			}
		}
	}
	for kind := range 256 {
		for n := range 80 {
			p := append([]byte{byte(kind)}, make([]byte, n)...)
			wantByTheWords(t, "noughts", framed(p))
			p[n] ^= 1
			wantByTheWords(t, "noughts and a one", framed(p))
		}
	}
}

// P19.2: what says how long a name or a text is says another thing than there is.
func TestDecodeOfLengthsWithin(t *testing.T) {
	for has := range 80 {
		for says := range 256 {
			p := slices.Concat([]byte{1, byte(says)}, bytes.Repeat([]byte{'n'}, has), eight(1))
			if has == says && has >= 1 && has <= 64 {
				wantDecoded(t, "a name", framed(p), hello(strings.Repeat("n", has), 1), 8+len(p), api.OK)
			} else {
				wantError(t, "a name", framed(p), api.ErrFrame)
			}
		}
	}
	front := slices.Concat([]byte{2}, eight(1), eight(2), eight(3))
	for has := range 12 {
		for _, says := range []int{0, 1, 2, 3, 4, 5, 6, 7, 8, 9, 10, 11, 12, 255, 256, 65535, 65536, 65537, 1 << 24, 1 << 24 * (has + 1), math.MaxInt32, 1 << 31, 1<<31 + has, math.MaxUint32} {
			p := slices.Concat(front, four(says), bytes.Repeat([]byte{'t'}, has))
			if has == says {
				wantDecoded(t, "a text", framed(p), delta(1, 2, 3, strings.Repeat("t", has)), 8+len(p), api.OK)
			} else {
				wantError(t, "a text", framed(p), api.ErrFrame)
			}
		}
	}
	for _, n := range []int{65535, 65536, 65537, 65538, 70000, maxRecord - 29} {
		p := slices.Concat(front, four(n), make([]byte, n))
		if n <= 65536 {
			wantDecoded(t, "a long text", framed(p), delta(1, 2, 3, string(make([]byte, n))), 8+len(p), api.OK)
		} else {
			wantError(t, "a text that is too long", framed(p), api.ErrFrame)
		}
	}
}

// P19.2: numbers above MaxNumber, and an Err of 0, where they are named.
func TestDecodeOfNumbers(t *testing.T) {
	l := []uint64{1<<62 + 1, 1<<62 + 2, 1<<62 + 256, 3 << 61, math.MaxInt64, 1 << 63, 1<<63 + 1, math.MaxUint64 - 1, math.MaxUint64}
	for _, m := range []frames.Message{hello("name", 0), delta(0, 0, 0, "text"), ack(0, 0), nack(0, 0, 3), ping(0)} {
		p := payload(m)
		var places []int
		switch m.Kind {
		case frames.Hello:
			places = []int{len(p) - 8}
		case frames.Delta:
			places = []int{1, 9, 17}
		case frames.Ping:
			places = []int{1}
		default:
			places = []int{1, 9}
		}
		for _, at := range places {
			for _, n := range l {
				q := slices.Clone(p)
				binary.BigEndian.PutUint64(q[at:], n)
				wantError(t, "a number", framed(q), api.ErrFrame)
			}
			for _, n := range numbers() {
				q := slices.Clone(p)
				binary.BigEndian.PutUint64(q[at:], uint64(n))
				wantByTheWords(t, "a number", framed(q))
				if _, _, e := frames.Decode(framed(q)); e != api.OK {
					t.Errorf("the number %d at %d of %s: %v", n, at, brief(m), e)
				}
			}
		}
	}
	p := payload(nack(1, 2, 3))
	p[18] = 0
	wantError(t, "an Err of 0", framed(p), api.ErrFrame)
}

// P19.2: the sum.
func TestDecodeOfOtherSums(t *testing.T) {
	b := framed(payload(ack(1, 2)))
	for i := range 32 {
		c := slices.Clone(b)
		c[4+i/8] ^= 1 << (i % 8)
		wantError(t, "a bit of the sum", c, api.ErrFrame)
	}
	c := slices.Clone(b)
	clear(c[4:8])
	wantError(t, "no sum", c, api.ErrFrame)
	slices.Reverse(b[4:8])
	wantError(t, "the sum the other way round", b, api.ErrFrame)
}

// anyPayload: a message's with something changed, or anything.
func anyPayload(r *rand.Rand) []byte {
	p := payload(anyMessage(r))
	for range r.Intn(3) {
		switch r.Intn(4) {
		case 0:
			p[r.Intn(len(p))] ^= 1 << r.Intn(8)
		case 1:
			p[r.Intn(min(len(p), 30))] = byte(r.Intn(6))
		case 2:
			p = append(p, byte(r.Intn(256)))
		default:
			p = p[:1+r.Intn(len(p))]
		}
	}
	return p
}

// P19.2, P19.5: payloads that are nearly a message's, in frames that are right, and spoilt, and cut; and any bytes.
func TestDecodeOfAnyBytes(t *testing.T) {
	r := rand.New(rand.NewSource(3))
	told := map[api.Errno]int{}
	for range 20000 {
		b := framed(anyPayload(r))
		switch r.Intn(6) {
		case 0:
			b[r.Intn(len(b))] ^= 1 << r.Intn(8)
		case 1:
			b = b[:r.Intn(len(b))]
		case 2:
			b = append(b, anyText(r, r.Intn(20))...)
		}
		wantByTheWords(t, "nearly a message", b)
		_, _, e := frames.Decode(b)
		told[e]++
		noise := []byte(anyText(r, r.Intn(40)))
		if len(noise) > 3 {
			copy(noise, []byte{0, 0, 0})
		}
		wantByTheWords(t, "noise", noise)
	}
	for _, e := range []api.Errno{api.OK, api.ErrTorn, api.ErrFrame} {
		if told[e] < 2000 {
			t.Errorf("%d times %v", told[e], e)
		}
	}
	for a := range 256 {
		for b := range 256 {
			wantByTheWords(t, "two bytes", framed([]byte{byte(a), byte(b)}))
		}
	}
}
