package sum_test

import (
	"bytes"
	"slices"
	"testing"

	"turnpike/api"
	"turnpike/spare"
	"turnpike/sum"
)

func withSpare(p []byte) (list, all []byte) { return spare.List(p, 0xa5) }

func fill(p []byte) { spare.Fill(p, 0x5a) }

// P1.8: nothing that is handed in is changed, nor the spare room behind it.
func TestHandedInIsNotChanged(t *testing.T) {
	b, _ := row(t, somePayloads(t))
	torn := slices.Clone(b)
	torn[len(torn)-1] ^= 1
	for _, p := range [][]byte{{}, []byte("payload"), b, torn, make([]byte, sum.MaxRecord), make([]byte, sum.MaxRecord+1)} {
		list, room := withSpare(p)
		before := slices.Clone(room)
		sum.Crc(list)
		sum.More(7, list)
		sum.Frame(list)
		sum.Next(list)
		sum.Scan(list)
		for _, q := range sum.Each(list) {
			fill(q)
		}
		if !bytes.Equal(room, before) {
			t.Errorf("a list of %d bytes was changed", len(p))
		}
	}
}

// P1.8: what is answered shares nothing with what was handed in.
func TestAnswersAreNewMemory(t *testing.T) {
	payload, room := withSpare([]byte("payload"))
	before := slices.Clone(room)
	f := frame(t, payload)
	want := slices.Clone(f)
	fill(payload)
	if !bytes.Equal(f, want) {
		t.Errorf("a frame changed with its payload")
	}
	copy(room, before)
	fill(f)
	if !bytes.Equal(room, before) {
		t.Errorf("a payload changed with its frame")
	}

	b, bytesRoom := withSpare(slices.Concat(want, want))
	before = slices.Clone(bytesRoom)
	p, _, e := sum.Next(b)
	if e != api.OK {
		t.Fatal(e)
	}
	fill(p)
	if !bytes.Equal(bytesRoom, before) {
		t.Errorf("bytes changed with the payload that Next answered")
	}
	p, _, _ = sum.Next(b)
	fill(b)
	if string(p) != "payload" {
		t.Errorf("the payload that Next answered changed with the bytes")
	}
}

// P1.8: each payload of one answer is its own, its spare room too.
func TestPayloadsAreTheirOwn(t *testing.T) {
	payloads := somePayloads(t)
	list, _ := row(t, payloads)
	b, room := withSpare(list)
	before := slices.Clone(room)
	for i := range payloads {
		l, _ := sum.Scan(b)
		fill(l[i])
		for j, p := range l {
			if j != i && !bytes.Equal(p, payloads[j]) {
				t.Errorf("payload %d changed with %d", j, i)
			}
		}
		again, _ := sum.Scan(b)
		if !same(again, payloads) || !bytes.Equal(room, before) {
			t.Errorf("the bytes changed with payload %d", i)
		}
	}
	l, _ := sum.Scan(b)
	var seen [][]byte
	for _, p := range sum.Each(b) {
		seen = append(seen, p)
	}
	fill(b)
	if !same(l, payloads) || !same(seen, payloads) {
		t.Errorf("payloads changed with the bytes")
	}
}

// P1.8: a sequence keeps none of the bytes that Each was given.
func TestEachKeepsNothing(t *testing.T) {
	payloads := somePayloads(t)
	b, _ := row(t, payloads)
	each := sum.Each(b)
	fill(b)
	var seen [][]byte
	for _, p := range each {
		seen = append(seen, p)
	}
	if !same(seen, payloads) {
		t.Errorf("the sequence changed with the bytes: %q", seen)
	}
}

// P0.1, P0.2: nil everywhere, and nothing beside an error.
func TestNothingHandedIn(t *testing.T) {
	if sum.Crc(nil) != 0 || sum.More(5, nil) != 5 {
		t.Errorf("sums of nil")
	}
	if f, e := sum.Frame(nil); len(f) != 8 || e != api.OK {
		t.Errorf("Frame of nil: %x, %v", f, e)
	}
	wantTorn(t, "nil", nil)
	wantHead(t, "nil", nil, nil, 0)
	if f, e := sum.Frame(make([]byte, sum.MaxRecord+1)); f != nil || e != api.ErrLong {
		t.Errorf("beside ErrLong: %d bytes", len(f))
	}
}
