package script_test

import (
	"bytes"
	"slices"
	"testing"

	"turnpike/api"
	"turnpike/script"
	"turnpike/spare"
)

func withSpare(p []byte) (list, all []byte) { return spare.List(p, 0xa5) }

func fill(p []byte) { spare.Fill(p, 0x5a) }

// fillSteps writes over steps, their data, and the spare room behind all of them.
func fillSteps(l []script.Step) {
	l = l[:cap(l)]
	for i := range l {
		fill(l[i].Data)
		l[i] = script.Step{Op: 7, A: 7, B: 7, Data: []byte("written over")}
	}
}

// stepsWithSpare: the same steps, with spare room behind the list and behind each one's data; all of the list's memory, and of each data's.
func stepsWithSpare(l []script.Step) (list, all []script.Step, rooms [][]byte) {
	list, all = spare.List(l, script.Step{Op: 9, Data: []byte("spare")})
	for i := range list {
		data, room := withSpare(list[i].Data)
		list[i].Data, rooms = data, append(rooms, room)
	}
	return list, all, rooms
}

// P2.5: bytes that are handed in are not changed, nor the spare room behind them.
func TestBytesAreNotChanged(t *testing.T) {
	whole, _ := forms(someSteps())
	for _, p := range [][]byte{{}, {0}, {3, 1, 2}, {3, 1, 2, 255, 255, 7}, {3, 1, 2, 40, 0}, whole, whole[:len(whole)-4]} {
		list, room := withSpare(p)
		before := slices.Clone(room)
		fillSteps(script.Decode(list))
		for _, s := range script.Each(list) {
			fill(s.Data)
		}
		if !bytes.Equal(room, before) {
			t.Errorf("a list of %d bytes was changed", len(p))
		}
	}
}

// P2.5: steps that are handed in are not changed, their data neither, nor the spare room behind all of them.
func TestStepsAreNotChanged(t *testing.T) {
	for _, l := range [][]script.Step{nil, someSteps(), append(someSteps(), script.Step{Op: 16, Data: []byte("x")})} {
		list, room, rooms := stepsWithSpare(l)
		_, wantRoom, wantRooms := stepsWithSpare(l)
		raw, _ := script.Encode(list)
		fill(raw)
		if !same(room, wantRoom) {
			t.Errorf("%d steps were changed", len(l))
		}
		for i := range rooms {
			if !bytes.Equal(rooms[i], wantRooms[i]) {
				t.Errorf("the data of step %d was changed", i)
			}
		}
	}
}

// P2.5: nothing that is handed in is kept by what is answered.
func TestAnswersKeepNothing(t *testing.T) {
	l := someSteps()
	raw, places := forms(l)
	handed, _ := withSpare(raw)
	steps, each := script.Decode(handed), script.Each(handed)
	var seen []script.Step
	for _, s := range script.Each(handed) {
		seen = append(seen, s)
	}
	fill(handed)
	if !same(steps, l) || !same(seen, l) {
		t.Errorf("steps changed with the bytes")
	}
	i := 0
	for at, s := range each {
		if at != places[i] || !alike(s, l[i]) {
			t.Fatalf("the sequence changed with the bytes: step %d: %d, %v", i, at, s)
		}
		i++
	}
	if i != len(l) {
		t.Errorf("the sequence changed with the bytes: %d steps", i)
	}

	list, _, _ := stepsWithSpare(l)
	got, e := script.Encode(list)
	fillSteps(list)
	if e != api.OK || !bytes.Equal(got, raw) {
		t.Errorf("bytes changed with the steps")
	}
}

// P2.5: each step's data is its own, its spare room too, and each answer is another.
func TestDataIsItsOwn(t *testing.T) {
	l := someSteps()
	raw, _ := forms(l)
	for i := range l {
		got, other := script.Decode(raw), script.Decode(raw)
		fill(got[i].Data)
		for j, s := range got {
			if j != i && !alike(s, l[j]) {
				t.Errorf("step %d changed with %d", j, i)
			}
		}
		if !same(other, l) {
			t.Errorf("another answer changed with step %d", i)
		}
	}
	first, _ := script.Encode(l)
	second, _ := script.Encode(l)
	fill(first)
	if !bytes.Equal(second, raw) {
		t.Errorf("another answer of Encode changed")
	}
}

// P0.4: nil lists and empty ones are the same, also as data.
func TestNilAndEmpty(t *testing.T) {
	if l := script.Decode(nil); len(l) != 0 {
		t.Errorf("Decode of nil: %v", l)
	}
	for _, data := range [][]byte{nil, {}} {
		for op := range 16 {
			s := script.Step{Op: op, Data: data}
			wantBytes(t, "no data", []script.Step{s}, byTheForm(s))
		}
	}
}

// P0.2: a step whose Op carries no data has none.
func TestNoDataWhereNoneIsCarried(t *testing.T) {
	for op := range 16 {
		if slices.Contains(carriers(), op) {
			continue
		}
		l := script.Decode([]byte{byte(op), 1, 2, 0, 0, 0})
		if len(l) != 2 || l[0].Data != nil {
			t.Errorf("Op %d: %v", op, l)
		}
	}
}
