package frames_test

import (
	"bytes"
	"encoding/binary"
	"fmt"
	"hash/crc32"
	"math"
	"math/rand"
	"slices"
	"strings"
	"testing"

	"turnpike/api"
	"turnpike/frames"
)

// maxRecord: layer 1's.
const maxRecord = 131072

// framed is the frame of any payload as layer 1's chapter words it, also of one that is too long.
func framed(p []byte) []byte {
	size := binary.BigEndian.AppendUint32(nil, uint32(len(p)))
	check := crc32.Checksum(slices.Concat(size, p), crc32.MakeTable(crc32.Castagnoli))
	return slices.Concat(size, binary.BigEndian.AppendUint32(nil, check), p)
}

func eight(n int) []byte { return binary.BigEndian.AppendUint64(nil, uint64(n)) }

func four(n int) []byte { return binary.BigEndian.AppendUint32(nil, uint32(n)) }

// payload of a message that may be, as the chapter's table words it.
func payload(m frames.Message) []byte {
	switch m.Kind {
	case 1:
		return slices.Concat([]byte{1, byte(len(m.Name))}, []byte(m.Name), eight(m.Version))
	case 2:
		return slices.Concat([]byte{2}, eight(m.Nonce), eight(m.From), eight(m.Version), four(len(m.Text)), []byte(m.Text))
	case 3:
		return slices.Concat([]byte{3}, eight(m.Nonce), eight(m.Version))
	case 4:
		return slices.Concat([]byte{4}, eight(m.Nonce), eight(m.Version), []byte{byte(m.Err >> 8), byte(m.Err)})
	case 5:
		return slices.Concat([]byte{5}, eight(m.Nonce))
	}
	panic("no kind")
}

// named: a message without what its Kind does not name.
func named(m frames.Message) frames.Message {
	switch m.Kind {
	case 1:
		return frames.Message{Kind: 1, Name: m.Name, Version: m.Version}
	case 2:
		return frames.Message{Kind: 2, Nonce: m.Nonce, From: m.From, Version: m.Version, Text: m.Text}
	case 3:
		return frames.Message{Kind: 3, Nonce: m.Nonce, Version: m.Version}
	case 4:
		return frames.Message{Kind: 4, Nonce: m.Nonce, Version: m.Version, Err: m.Err}
	case 5:
		return frames.Message{Kind: 5, Nonce: m.Nonce}
	}
	return frames.Message{}
}

// filled: what the Kind does not name is there, and is nothing that a message may have.
func filled(m frames.Message) frames.Message {
	n := frames.Message{Kind: m.Kind, Name: strings.Repeat("!", 65), Version: -1, From: -7, Nonce: math.MinInt, Err: 65536, Text: strings.Repeat("?", api.MaxText+1)}
	switch m.Kind {
	case 1:
		n.Name, n.Version = m.Name, m.Version
	case 2:
		n.Nonce, n.From, n.Version, n.Text = m.Nonce, m.From, m.Version, m.Text
	case 3:
		n.Nonce, n.Version = m.Nonce, m.Version
	case 4:
		n.Nonce, n.Version, n.Err = m.Nonce, m.Version, m.Err
	case 5:
		n.Nonce = m.Nonce
	}
	return n
}

func hello(name string, version int) frames.Message {
	return frames.Message{Kind: frames.Hello, Name: name, Version: version}
}

func delta(nonce, from, version int, text string) frames.Message {
	return frames.Message{Kind: frames.Delta, Nonce: nonce, From: from, Version: version, Text: text}
}

func ack(nonce, version int) frames.Message {
	return frames.Message{Kind: frames.Ack, Nonce: nonce, Version: version}
}

func nack(nonce, version int, e api.Errno) frames.Message {
	return frames.Message{Kind: frames.Nack, Nonce: nonce, Version: version, Err: e}
}

func ping(nonce int) frames.Message { return frames.Message{Kind: frames.Ping, Nonce: nonce} }

// numbers: at the edges of what may be, and where a byte more is needed.
func numbers() []int {
	l := []int{0, 1, 2, 127, 128, 255, 256, 258, 65535, 65536, math.MaxInt32, math.MaxInt32 + 1, math.MaxUint32, math.MaxUint32 + 1, 0x0102030405060708, frames.MaxNumber - 1, frames.MaxNumber}
	for i := range 62 {
		l = append(l, 1<<i)
	}
	return l
}

// noNumbers: just outside, and far.
func noNumbers() []int {
	return []int{-1, -2, -255, -256, -frames.MaxNumber, math.MinInt, math.MinInt + 1, frames.MaxNumber + 1, frames.MaxNumber + 2, frames.MaxNumber + 256, math.MaxInt - 1, math.MaxInt}
}

// someMessages: of each Kind, at the edges of each thing that it names.
func someMessages() []frames.Message {
	var l []frames.Message
	for _, n := range numbers() {
		l = append(l, hello("sidecar", n), ping(n))
		l = append(l, delta(n, 7, 9, "t"), delta(7, n, 9, "t"), delta(7, 9, n, "t"))
		l = append(l, ack(n, 7), ack(7, n), nack(n, 7, 9), nack(7, n, 9))
	}
	for n := 1; n <= api.MaxName; n++ {
		l = append(l, hello(strings.Repeat("n", n), n))
	}
	for c := range 256 {
		l = append(l, hello(string([]byte{byte(c)}), 1), delta(1, 2, 3, string([]byte{byte(c), 'x'})))
	}
	for _, n := range []int{0, 1, 2, 254, 255, 256, 257, 4096, 65534, 65535, 65536} {
		l = append(l, delta(1, 2, 3, strings.Repeat("t", n)))
	}
	for _, e := range []api.Errno{1, 2, 10, 127, 128, 190, 254, 255, 256, 257, 322, 32767, 32768, 65279, 65280, 65534, 65535} {
		l = append(l, nack(1, 2, e))
	}
	return l
}

func anyNumber(r *rand.Rand) int { return int(r.Uint64() >> (2 + r.Intn(62))) }

func anyText(r *rand.Rand, n int) string {
	p := make([]byte, n)
	r.Read(p)
	return string(p)
}

func anyMessage(r *rand.Rand) frames.Message {
	m := frames.Message{Kind: 1 + r.Intn(5), Name: anyText(r, 1+r.Intn(64)), Version: anyNumber(r), From: anyNumber(r), Nonce: anyNumber(r), Err: api.Errno(1 + r.Intn(65535))}
	m.Text = anyText(r, r.Intn([]int{1, 10, 100, 1000}[r.Intn(4)]))
	return named(m)
}

// brief tells messages so that whatever bytes they have may be printed.
func brief(l ...frames.Message) string {
	var b strings.Builder
	for _, m := range l {
		fmt.Fprintf(&b, "{%d name %.40q version %d from %d nonce %d err %d text %.40q}", m.Kind, m.Name, m.Version, m.From, m.Nonce, int(m.Err), m.Text)
	}
	return b.String()
}

func frame(t *testing.T, m frames.Message) []byte {
	t.Helper()
	b, e := frames.Encode(m)
	if e != api.OK {
		t.Fatalf("Encode of %s: %v", brief(m), e)
	}
	return b
}

func wantRefused(t *testing.T, what string, m frames.Message) {
	t.Helper()
	if b, e := frames.Encode(m); b != nil || e != api.ErrArg {
		t.Errorf("%s: Encode of %s: %.40x, %v", what, brief(m), b, e)
	}
}

// The chapter's numbers.
func TestNumbersOfTheChapter(t *testing.T) {
	if frames.MaxNumber != 4611686018427387904 || frames.Hello != 1 || frames.Delta != 2 || frames.Ack != 3 || frames.Nack != 4 || frames.Ping != 5 {
		t.Error("the constants")
	}
	if api.ErrNil != 1 || api.ErrArg != 2 || api.ErrTorn != 10 || api.ErrFrame != 190 {
		t.Error("the errors")
	}
}

// P19.1: the chapter's examples, and one of each Kind, written out.
func TestEncodeOfExamples(t *testing.T) {
	for _, c := range []struct {
		m frames.Message
		p string
	}{
		{ping(258), "\x05\x00\x00\x00\x00\x00\x00\x01\x02"},
		{hello("a", 0), "\x01\x01a\x00\x00\x00\x00\x00\x00\x00\x00"},
		{nack(1, 2, 5), "\x04\x00\x00\x00\x00\x00\x00\x00\x01\x00\x00\x00\x00\x00\x00\x00\x02\x00\x05"},
		{nack(1, 2, 0x1234), "\x04\x00\x00\x00\x00\x00\x00\x00\x01\x00\x00\x00\x00\x00\x00\x00\x02\x12\x34"},
		{ack(1, 2), "\x03\x00\x00\x00\x00\x00\x00\x00\x01\x00\x00\x00\x00\x00\x00\x00\x02"},
		{delta(1, 2, 3, "text"), "\x02\x00\x00\x00\x00\x00\x00\x00\x01\x00\x00\x00\x00\x00\x00\x00\x02\x00\x00\x00\x00\x00\x00\x00\x03\x00\x00\x00\x04text"},
		{ping(0x0102030405060708), "\x05\x01\x02\x03\x04\x05\x06\x07\x08"},
		{ping(frames.MaxNumber), "\x05\x40\x00\x00\x00\x00\x00\x00\x00"},
	} {
		if b := frame(t, c.m); !bytes.Equal(b, framed([]byte(c.p))) {
			t.Errorf("%s: %x, want %x", brief(c.m), b, framed([]byte(c.p)))
		}
	}
}

// P19.1: the frame, whatever stands in what the Kind does not name.
func TestEncodeByTheTable(t *testing.T) {
	r := rand.New(rand.NewSource(1))
	l := someMessages()
	for range 2000 {
		l = append(l, anyMessage(r))
	}
	for _, m := range l {
		want := framed(payload(m))
		if b := frame(t, m); !bytes.Equal(b, want) {
			t.Fatalf("%s: %.40x, want %.40x", brief(m), b, want)
		}
		if b := frame(t, filled(m)); !bytes.Equal(b, want) {
			t.Fatalf("%s with all fields: %.40x, want %.40x", brief(m), b, want)
		}
	}
}

// P19.1: Kinds that there are not.
func TestEncodeOfOtherKinds(t *testing.T) {
	for _, kind := range []int{-5, -1, 0, 6, 7, 10, 255, 256, 257, 258, 259, 260, 261, 1<<16 + 1, 1<<32 + 1, 1<<62 + 5, math.MaxInt, math.MinInt, math.MinInt + 1} {
		wantRefused(t, "a Kind", frames.Message{Kind: kind, Name: "a", Version: 1, From: 1, Nonce: 1, Err: 1, Text: "t"})
		wantRefused(t, "a Kind alone", frames.Message{Kind: kind})
	}
}

// P19.1: whatever its Kind names is looked at.
func TestEncodeOutsideTheLimits(t *testing.T) {
	for _, n := range noNumbers() {
		wantRefused(t, "a Version", hello("a", n))
		wantRefused(t, "a Nonce", delta(n, 1, 1, "t"))
		wantRefused(t, "a From", delta(1, n, 1, "t"))
		wantRefused(t, "a Version", delta(1, 1, n, "t"))
		wantRefused(t, "a Nonce", ack(n, 1))
		wantRefused(t, "a Version", ack(1, n))
		wantRefused(t, "a Nonce", nack(n, 1, 1))
		wantRefused(t, "a Version", nack(1, n, 1))
		wantRefused(t, "a Nonce", ping(n))
	}
	for _, n := range []int{0, 65, 66, 127, 255, 256, 257, 256 + 64, 65537} {
		wantRefused(t, "a Name", hello(strings.Repeat("n", n), 1))
	}
	for _, n := range []int{65537, 65538, 2 * 65536, maxRecord, maxRecord + 1, 1 << 24} {
		wantRefused(t, "a Text", delta(1, 1, 1, strings.Repeat("t", n)))
	}
	for _, e := range []api.Errno{0, -1, -2, -65535, 65536, 65537, 65536 + 5, 1 << 32, math.MinInt, math.MaxInt} {
		wantRefused(t, "an Err", nack(1, 1, e))
	}
}
