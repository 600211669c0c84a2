package frames_test

import (
	"bytes"
	"math/rand"
	"runtime"
	"slices"
	"strings"
	"testing"
	"unsafe"

	"turnpike/api"
	"turnpike/frames"
	"turnpike/spare"
)

// given: a text in memory that the test may change.
func given(s string) (string, []byte) {
	b := []byte(s)
	return unsafe.String(unsafe.SliceData(b), len(b)), b
}

// own: a message whose texts nobody else has.
func own(m frames.Message) frames.Message {
	m.Name, m.Text = strings.Clone(m.Name), strings.Clone(m.Text)
	return m
}

// P19.8: what Encode is handed is not changed and not kept, and no two answers share memory.
func TestEncodeKeepsNothing(t *testing.T) {
	for _, m := range short() {
		want := framed(payload(m))
		handed := m
		var name, text []byte
		handed.Name, name = given(m.Name)
		handed.Text, text = given(m.Text)
		b, again := frame(t, handed), frame(t, handed)
		if string(name) != m.Name || string(text) != m.Text {
			t.Fatalf("texts of %s were changed: %q, %q", brief(m), name, text)
		}
		spare.Fill(name, '!')
		spare.Fill(text, '!')
		if !bytes.Equal(b, want) {
			t.Errorf("the frame of %s changed with its texts", brief(m))
		}
		spare.Fill(b, 0x5a)
		if !bytes.Equal(again, want) || !bytes.Equal(frame(t, m), want) {
			t.Errorf("frames of %s share memory", brief(m))
		}
	}
}

// P19.8: bytes that are decoded are not changed, nor the room behind them, nor are they the message's.
func TestDecodeKeepsNothing(t *testing.T) {
	for _, m := range short() {
		b := row(m)
		for _, p := range [][]byte{b, b[:len(b)-1], append(slices.Clone(b), 1, 2, 3), framed([]byte{6}), nil} {
			list, all := spare.List(p, 0xa5)
			before := slices.Clone(all)
			got, _, e := frames.Decode(list)
			if !bytes.Equal(all, before) {
				t.Fatalf("bytes were changed: %x", all)
			}
			spare.Fill(list, 0x5a)
			if e == api.OK && got != m {
				t.Errorf("the message changed with the bytes: %s", brief(got))
			}
		}
	}
}

// P19.8: pieces that are fed are not changed, and what is made of them later doesn't hang on them any more.
func TestFeedKeepsNothing(t *testing.T) {
	r := rand.New(rand.NewSource(6))
	for range 300 {
		var l, all []frames.Message
		for range 1 + r.Intn(8) {
			l = append(l, anyMessage(r))
		}
		reader := frames.NewReader()
		for _, p := range parted(r, append(row(l...), 0, 0, 0)) {
			list, room := spare.List(p, 0xa5)
			before := slices.Clone(room)
			got, e := reader.Feed(list)
			if e != api.OK || !bytes.Equal(room, before) {
				t.Fatalf("Feed: %v, the piece is %x, was %x", e, room, before)
			}
			all = append(all, got...)
			spare.Fill(list, 0x5a)
		}
		if !slices.Equal(all, l) {
			t.Fatalf("%s, want %s", brief(all...), brief(l...))
		}
		wantReader(t, "pieces that were written over", reader, 3, false)
	}
}

// P19.8: a list that was answered is the caller's, the room behind it too, and stays as it is.
func TestAnswersAreNewMemory(t *testing.T) {
	r := rand.New(rand.NewSource(7))
	for range 200 {
		var l []frames.Message
		for range 3 + r.Intn(8) {
			l = append(l, anyMessage(r))
		}
		b := row(l...)
		cut := r.Intn(len(b))
		reader, other := frames.NewReader(), frames.NewReader()
		first, _ := reader.Feed(b[:cut])
		kept, _ := other.Feed(b[:cut])
		was := make([]frames.Message, 0, len(kept))
		for _, m := range kept {
			was = append(was, own(m))
		}
		spare.Fill(first, frames.Message{Kind: 9, Name: "!"})
		wantFed(t, "filled", reader, b[cut:], l[len(first):], api.OK)
		wantFed(t, "not filled", other, b[cut:], l[len(first):], api.OK)
		other.Feed(bytes.Repeat([]byte{255}, len(b)))
		if !slices.Equal(kept, was) {
			t.Fatalf("an answer changed: %s, was %s", brief(kept...), brief(was...))
		}
	}
}

// P19.8: texts are new memory in each answer.
func TestTextsAreNew(t *testing.T) {
	for _, m := range short()[:2] {
		b := row(m)
		one, _, _ := frames.Decode(b)
		two, _, _ := frames.Decode(b)
		if m.Name != "" && unsafe.StringData(one.Name) == unsafe.StringData(two.Name) || m.Text != "" && unsafe.StringData(one.Text) == unsafe.StringData(two.Text) {
			t.Errorf("two answers share a text of %s", brief(m))
		}
	}
}

// P19.8: readers that are fed in turns tell each its own; one that dies leaves the others alive.
func TestReadersAreApart(t *testing.T) {
	r := rand.New(rand.NewSource(8))
	for range 100 {
		var readers []*frames.Reader
		var fed [][]byte
		var left [][][]byte
		for i := range 4 {
			var b []byte
			for range 6 {
				b = append(b, row(anyMessage(r))...)
			}
			if i == 0 {
				b[r.Intn(len(b))] ^= 1
			}
			readers, fed, left = append(readers, frames.NewReader()), append(fed, nil), append(left, parted(r, b))
		}
		got := make([][]frames.Message, len(readers))
		for turn := range 4 * 40 {
			i := turn % 4
			if len(left[i]) == 0 {
				continue
			}
			p := left[i][0]
			left[i], fed[i] = left[i][1:], append(fed[i], p...)
			l, _ := readers[i].Feed(p)
			got[i] = append(got[i], l...)
			for k, reader := range readers {
				want, waits, dead := told(fed[k])
				if !slices.Equal(got[k], want) {
					t.Fatalf("reader %d: %s, want %s", k, brief(got[k]...), brief(want...))
				}
				wantReader(t, "in turns", reader, waits, dead)
			}
		}
	}
}

func heap() int {
	var m runtime.MemStats
	runtime.GC()
	runtime.GC()
	runtime.ReadMemStats(&m)
	return int(m.HeapAlloc)
}

// P0.4: of the bytes of messages that were told, and of those that were fed to a dead reader, nothing is kept.
func TestNothingMoreIsKept(t *testing.T) {
	m := delta(1, 2, 3, strings.Repeat("t", api.MaxText))
	long := row(slices.Repeat([]frames.Message{m}, 100)...)
	before := heap()
	var readers []*frames.Reader
	for i := range 20 {
		r := frames.NewReader()
		r.Feed(long)
		if i%2 == 0 {
			r.Feed(long[:1000])
			wantReader(t, "some bytes", r, 1000, false)
		} else {
			r.Feed(long[:60000])
			r.Feed(make([]byte, len(m.Text)))
			r.Feed(long)
			wantReader(t, "dead", r, 0, true)
		}
		readers = append(readers, r)
	}
	if more := heap() - before; more > 1<<19 {
		t.Errorf("%d bytes more are kept", more)
	}
	runtime.KeepAlive(readers)
	runtime.KeepAlive(long)
}
