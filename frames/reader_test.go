package frames_test

import (
	"math/rand"
	"slices"
	"strings"
	"testing"

	"turnpike/api"
	"turnpike/frames"
)

// told is what P19.3 and P19.6 say of all the bytes that a reader was fed, whatever the pieces.
func told(all []byte) (messages []frames.Message, waits int, dead bool) {
	for {
		m, size, e := byTheWords(all)
		switch e {
		case api.ErrTorn:
			return messages, len(all), false
		case api.ErrFrame:
			return messages, 0, true
		}
		messages, all = append(messages, m), all[size:]
	}
}

func wantReader(t *testing.T, what string, r *frames.Reader, waits int, dead bool) {
	t.Helper()
	if r.Waits() != waits || r.Dead() != dead {
		t.Fatalf("%s: %d bytes wait, dead %v, want %d, %v", what, r.Waits(), r.Dead(), waits, dead)
	}
}

func wantFed(t *testing.T, what string, r *frames.Reader, p []byte, want []frames.Message, e api.Errno) {
	t.Helper()
	if l, f := r.Feed(p); !slices.Equal(l, want) || f != e {
		t.Fatalf("%s: Feed of %d bytes: %.600s, %v, want %.600s, %v", what, len(p), brief(l...), f, brief(want...), e)
	}
}

// wantPieces feeds a reader the pieces, and holds each answer, and what is told behind it, against what P19.3 and P19.4 say.
func wantPieces(t *testing.T, what string, r *frames.Reader, pieces ...[]byte) {
	t.Helper()
	var fed []byte
	before, dead := 0, false
	for _, p := range pieces {
		var want []frames.Message
		e := api.ErrFrame
		if waits := 0; !dead {
			fed = append(fed, p...)
			want, waits, dead = told(fed)
			want = want[before:]
			before += len(want)
			if !dead {
				e = api.OK
			}
			wantFed(t, what, r, p, want, e)
			wantReader(t, what, r, waits, dead)
			continue
		}
		wantFed(t, what, r, p, nil, e)
		wantReader(t, what, r, 0, true)
	}
}

func row(l ...frames.Message) []byte {
	var b []byte
	for _, m := range l {
		b = append(b, framed(payload(m))...)
	}
	return b
}

// short: one of each Kind.
func short() []frames.Message {
	return []frames.Message{hello("sidecar", 3), delta(1, 3, 4, "kind: Service\nname: web\n"), ack(1, 4), nack(2, 5, api.ErrFrom), ping(7)}
}

// wrong: what no frame begins with that could become a message's.
func wrong() [][]byte {
	spoilt := row(ping(9))
	spoilt[12] ^= 4
	other := row(ack(1, 2))
	other[5] ^= 1
	return [][]byte{{0, 2, 0, 1}, {255, 255, 255, 255, 1, 2}, framed(nil), framed([]byte{6}), framed([]byte{0}), framed(payload(nack(1, 2, 0))), framed(append(payload(ping(1)), 0)), spoilt, other, make([]byte, 8), framed(make([]byte, 300))}
}

// P19.3, P19.4: the chapter's examples.
func TestFeedOfExamples(t *testing.T) {
	b := row(ping(1), ping(2))
	r := frames.NewReader()
	wantFed(t, "all but the last byte", r, b[:len(b)-1], []frames.Message{ping(1)}, api.OK)
	wantReader(t, "all but the last byte", r, 16, false)
	wantFed(t, "the last byte", r, b[len(b)-1:], []frames.Message{ping(2)}, api.OK)
	wantReader(t, "the last byte", r, 0, false)

	b[len(b)-1] ^= 1
	r = frames.NewReader()
	wantFed(t, "a bit turned", r, b, []frames.Message{ping(1)}, api.ErrFrame)
	wantReader(t, "a bit turned", r, 0, true)
	wantFed(t, "another Ping", r, row(ping(3)), nil, api.ErrFrame)
	wantReader(t, "another Ping", r, 0, true)
}

// P19.3, P19.4: readers that are nil, new or zero, and nothing fed.
func TestFeedOfNothing(t *testing.T) {
	var none *frames.Reader
	wantReader(t, "nil", none, 0, false)
	for _, p := range [][]byte{nil, {}, {0, 2, 0, 1}, row(short()...)} {
		wantFed(t, "nil", none, p, nil, api.ErrNil)
	}
	wantReader(t, "nil", none, 0, false)
	for _, r := range []*frames.Reader{frames.NewReader(), {}} {
		wantReader(t, "new", r, 0, false)
		wantPieces(t, "nothing", r, nil, []byte{}, nil)
		wantFed(t, "behind nothing", r, row(ping(1))[:3], nil, api.OK)
		wantFed(t, "nothing", r, nil, nil, api.OK)
		wantReader(t, "three wait", r, 3, false)
		wantFed(t, "the rest", r, row(ping(1))[3:], []frames.Message{ping(1)}, api.OK)
		wantFed(t, "wrong", r, []byte{1, 0, 0, 0}, nil, api.ErrFrame)
		wantFed(t, "nothing", r, nil, nil, api.ErrFrame)
		wantReader(t, "dead", r, 0, true)
	}
}

// P19.3: a reader is dead as soon as it can be told, and nothing makes it live.
func TestDeadReaders(t *testing.T) {
	for _, w := range wrong() {
		for n := range 4 {
			ahead := slices.Repeat(short(), n)
			for _, behind := range [][]byte{nil, {1}, row(short()...)} {
				r := frames.NewReader()
				wantFed(t, "wrong", r, slices.Concat(row(ahead...), w, behind), ahead, api.ErrFrame)
				wantReader(t, "wrong", r, 0, true)
				for _, p := range [][]byte{row(ping(1)), nil, w, make([]byte, 1000)} {
					wantFed(t, "dead", r, p, nil, api.ErrFrame)
					wantReader(t, "dead", r, 0, true)
				}
			}
		}
	}
	r := frames.NewReader()
	wantPieces(t, "a length", r, row(ping(1)), []byte{0}, []byte{2, 0}, []byte{1}, []byte{0}, row(ping(2)))
}

// P19.6: every way to part a row in two, and in three; right ones and ones with something wrong behind.
func TestEveryParting(t *testing.T) {
	rows := [][]byte{row(short()...), row(ping(1), ping(2), ping(3))[:40]}
	for _, w := range wrong()[:7] {
		rows = append(rows, slices.Concat(row(ping(1)), w, row(ping(2))[:5]))
	}
	for _, b := range rows {
		for i := range len(b) + 1 {
			wantPieces(t, "two", frames.NewReader(), b[:i], b[i:])
			for j := i; j <= min(len(b), i+40); j++ {
				wantPieces(t, "three", frames.NewReader(), b[:i], b[i:j], b[j:])
			}
		}
		for size := 1; size < 20; size++ {
			wantPieces(t, "alike", frames.NewReader(), slices.Collect(slices.Chunk(b, size))...)
		}
	}
}

// parted: bytes in any pieces, some of them empty.
func parted(r *rand.Rand, b []byte) [][]byte {
	most := []int{1, 3, 20, 200, 5000}[r.Intn(5)]
	var pieces [][]byte
	for len(b) > 0 {
		n := min(len(b), r.Intn(most+1))
		pieces, b = append(pieces, b[:n]), b[n:]
	}
	return pieces
}

// P19.3, P19.6: any messages, now and then something wrong among them, in any pieces.
func TestAnyPieces(t *testing.T) {
	r := rand.New(rand.NewSource(4))
	deads, whole := 0, 0
	for range 600 {
		var b []byte
		for range r.Intn(12) {
			b = append(b, row(anyMessage(r))...)
			switch r.Intn(40) {
			case 0:
				b = append(b, wrong()[r.Intn(len(wrong()))]...)
			case 1:
				b[r.Intn(len(b))] ^= 1 << r.Intn(8)
			}
		}
		if r.Intn(3) == 0 {
			b = b[:r.Intn(len(b)+1)]
		}
		messages, waits, dead := told(b)
		if dead {
			deads++
		} else {
			whole++
		}
		for range 3 {
			one := frames.NewReader()
			var all []frames.Message
			for _, p := range parted(r, b) {
				l, _ := one.Feed(p)
				all = append(all, l...)
			}
			if !slices.Equal(all, messages) {
				t.Fatalf("%d messages, want %d", len(all), len(messages))
			}
			wantReader(t, "any pieces", one, waits, dead)
		}
		wantPieces(t, "any pieces", frames.NewReader(), parted(r, b)...)
	}
	if deads < 100 || whole < 100 {
		t.Errorf("%d dead, %d not", deads, whole)
	}
}

// P19.3, P19.6: the longest message, and the longest frame that is none, byte by byte.
func TestLongFramesByteByByte(t *testing.T) {
	m := delta(1, 2, 3, strings.Repeat("t", api.MaxText))
	for _, c := range []struct {
		b    []byte
		want []frames.Message
		e    api.Errno
	}{
		{row(m), []frames.Message{m}, api.OK},
		{framed(make([]byte, maxRecord)), nil, api.ErrFrame},
	} {
		r := frames.NewReader()
		wantFed(t, "ahead", r, row(ping(1)), []frames.Message{ping(1)}, api.OK)
		last := len(c.b) - 1
		for i := range last {
			wantFed(t, "a byte", r, c.b[i:i+1], nil, api.OK)
			wantReader(t, "a byte", r, i+1, false)
		}
		wantFed(t, "the last byte", r, c.b[last:], c.want, c.e)
		wantReader(t, "the last byte", r, 0, c.e != api.OK)
	}
}

// P19.3: a great many messages at once.
func TestManyMessages(t *testing.T) {
	var l []frames.Message
	for n := range 100000 {
		l = append(l, ping(n))
	}
	r := frames.NewReader()
	wantFed(t, "many", r, append(row(l...), 0, 0), l, api.OK)
	wantReader(t, "many", r, 2, false)
}

// patterns: one bit, all two within 32, all 32, and some more; bit k of one is to be turned k bits on.
func patterns(r *rand.Rand) []uint32 {
	l := []uint32{1, 7, 0xff, 0xffff, 0xffffffff, 0xaaaaaaab, 0x82f63b78, 0x05ec76f1}
	for k := 1; k < 32; k++ {
		l = append(l, 1|1<<k)
	}
	for range 10 {
		l = append(l, r.Uint32()|1)
	}
	return l
}

// turned: p with bits from bit at on turned, or that they do not fit in.
func turned(p []byte, at int, pattern uint32) ([]byte, bool) {
	p = slices.Clone(p)
	for k := range 32 {
		if pattern>>k&1 == 0 {
			continue
		}
		if at+k >= 8*len(p) {
			return nil, false
		}
		p[(at+k)/8] ^= 1 << ((at + k) % 8)
	}
	return p, true
}

// wantTurned: P19.7: of a row in which the payload of one message's frame is another.
func wantTurned(t *testing.T, l []frames.Message, i int, p []byte) {
	t.Helper()
	spoilt := row(l[i])
	copy(spoilt[8:], p)
	wantError(t, "turned", spoilt, api.ErrFrame)
	r := frames.NewReader()
	wantFed(t, "turned", r, slices.Concat(row(l[:i]...), spoilt, row(l[i+1:]...)), l[:i], api.ErrFrame)
	wantReader(t, "turned", r, 0, true)
}

// P19.7: bits within 32 side by side, everywhere in the payload of each Kind.
func TestTurnedBits(t *testing.T) {
	l := short()
	for i, m := range l {
		p := payload(m)
		for at := range 8 * len(p) {
			for _, pattern := range patterns(rand.New(rand.NewSource(int64(at)))) {
				if q, is := turned(p, at, pattern); is {
					wantTurned(t, l, i, q)
				}
			}
		}
	}
}

// P19.7: the same of the longest message.
func TestTurnedBitsOfTheLongest(t *testing.T) {
	r := rand.New(rand.NewSource(5))
	l := []frames.Message{ping(1), delta(1, 2, 3, anyText(r, api.MaxText)), ping(2)}
	p := payload(l[1])
	bits := 8 * len(p)
	for _, at := range []int{0, 1, 8, 200, 231, 232, bits / 2, bits - 32, r.Intn(bits - 32), r.Intn(bits - 32)} {
		for _, pattern := range []uint32{1, 0xffffffff, 0x80000001, r.Uint32() | 1} {
			q, _ := turned(p, at, pattern)
			wantTurned(t, l, 1, q)
		}
	}
	q, _ := turned(p, bits-1, 1)
	wantTurned(t, l, 1, q)
}
