package script_test

import (
	"bytes"
	"math/rand"
	"slices"
	"testing"

	"turnpike/script"
)

// P2.1: the chapter's examples.
func TestDecodeOfExamples(t *testing.T) {
	wantSteps(t, "nil", nil, nil, nil)
	wantSteps(t, "none", []byte{}, nil, nil)
	for _, x := range []struct {
		raw  string
		want script.Step
	}{
		{"\x01\x05\x00", script.Step{Op: script.Pick, A: 5}},
		{"\x13\x07\x01\x03\x00abc", script.Step{Op: script.Bytes, A: 7, B: 1, Data: []byte("abc")}},
		{"\x03\x07\x01\x03\x00a", script.Step{Op: script.Bytes, A: 7, B: 1, Data: []byte("a")}},
		{"\x0a", script.Step{Op: script.Draw}},
		{"\x08", script.Step{Op: script.Reset}},
	} {
		wantSteps(t, "an example", []byte(x.raw), []script.Step{x.want}, []int{0})
	}
}

// P2.1: bytes that are wanted behind the end, in A, B, the length, the data.
func TestDecodeBehindTheEnd(t *testing.T) {
	for _, x := range []struct {
		raw  string
		want script.Step
	}{
		{"\x01", script.Step{Op: 1}},
		{"\x01\x07", script.Step{Op: 1, A: 7}},
		{"\x01\x07\x09", script.Step{Op: 1, A: 7, B: 9}},
		{"\x03", script.Step{Op: 3}},
		{"\x03\x07", script.Step{Op: 3, A: 7}},
		{"\x03\x07\x09", script.Step{Op: 3, A: 7, B: 9}},
		{"\x03\x07\x09\x02", script.Step{Op: 3, A: 7, B: 9}},
		{"\x03\x07\x09\x02\x00", script.Step{Op: 3, A: 7, B: 9}},
		{"\x03\x07\x09\x02\x00a", script.Step{Op: 3, A: 7, B: 9, Data: []byte("a")}},
		{"\x03\x07\x09\x02\x00ab", script.Step{Op: 3, A: 7, B: 9, Data: []byte("ab")}},
		{"\x03\x07\x09\x00\x01ab", script.Step{Op: 3, A: 7, B: 9, Data: []byte("ab")}},
		{"\x03\x07\x09\xff\xffab", script.Step{Op: 3, A: 7, B: 9, Data: []byte("ab")}},
		{"\x03\x07\x09\x00\x00", script.Step{Op: 3, A: 7, B: 9}},
	} {
		wantSteps(t, "cut", []byte(x.raw), []script.Step{x.want}, []int{0})
		ahead := script.Step{Op: script.Answer, A: 1, B: 2, Data: []byte{3, 3, 3, 3}}
		raw := append(byTheForm(ahead), x.raw...)
		wantSteps(t, "cut, with a step ahead", raw, []script.Step{ahead, x.want}, []int{0, 9})
	}
}

// P2.1: of the first byte the low four bits alone are looked at, of the others all.
func TestDecodeOfHighBits(t *testing.T) {
	for first := range 256 {
		want := script.Step{Op: first & 15, A: 0xf3, B: 0xa1}
		raw := []byte{byte(first), 0xf3, 0xa1}
		if slices.Contains(carriers(), want.Op) {
			want.Data = []byte{0xff, 0x13}
			raw = append(raw, 2, 0, 0xff, 0x13)
		}
		behind := script.Step{Op: script.Rest, A: 255, B: 254}
		places := []int{0, len(raw)}
		wantSteps(t, "a first byte", append(raw, 0xff, 255, 254), []script.Step{want, behind}, places)
	}
}

// P2.1: the length is of two bytes, the low one first; just so many are the data's.
func TestDecodeOfLengths(t *testing.T) {
	r := rand.New(rand.NewSource(21))
	for _, n := range []int{0, 1, 2, 3, 254, 255, 256, 257, 511, 512, 4096, 65279, 65280, maxData - 1, maxData} {
		for _, op := range carriers() {
			data := noise(r, n)
			raw := append([]byte{byte(op), 1, 2, byte(n), byte(n >> 8)}, data...)
			whole := script.Step{Op: op, A: 1, B: 2, Data: data}
			wantSteps(t, "whole", raw, []script.Step{whole}, []int{0})
			behind := script.Step{Op: script.Beat, A: 9}
			wantSteps(t, "with one behind", append(slices.Clone(raw), 12, 9), []script.Step{whole, behind}, []int{0, len(raw)})
			if n > 0 {
				less := script.Step{Op: op, A: 1, B: 2, Data: data[:n-1]}
				wantSteps(t, "a byte less", raw[:len(raw)-1], []script.Step{less}, []int{0})
			}
		}
	}
}

// P2.1: all scripts of up to two bytes, longer ones cut anywhere, and noise.
func TestDecodeIsByTheWords(t *testing.T) {
	byRule := func(raw []byte) {
		t.Helper()
		want, places := byTheWords(raw)
		wantSteps(t, "by the words", raw, want, places)
	}
	for a := range 256 {
		byRule([]byte{byte(a)})
		for _, b := range []byte{0, 1, 3, 16, 127, 128, 255} {
			byRule([]byte{byte(a), b})
		}
	}
	raw, _ := forms(someSteps())
	for n := range len(raw) + 1 {
		byRule(raw[:n])
		byRule(raw[n:])
	}
	r := rand.New(rand.NewSource(22))
	for range 2000 {
		byRule(noise(r, r.Intn(40)))
	}
	for range 300 { // small numbers, so that lengths are short and many steps follow each other
		short := noise(r, r.Intn(200))
		for i := range short {
			short[i] &= 0xf7 >> r.Intn(8)
		}
		byRule(short)
	}
	byRule(noise(r, 200000))
	byRule(make([]byte, 100001))
	byRule(bytes.Repeat([]byte{3}, 5000))
}

// P2.1: the places of Each, and that it may be left at each of them.
func TestEachLeftEarly(t *testing.T) {
	l := someSteps()
	raw, places := forms(l)
	each := script.Each(raw)
	for most := range len(l) + 1 {
		var at []int
		var seen []script.Step
		calls := 0
		each(func(i int, s script.Step) bool {
			calls++
			at, seen = append(at, i), append(seen, s)
			return calls <= most
		})
		want := min(most+1, len(l)) // one that says no is the last that is called
		if calls != want || !slices.Equal(at, places[:want]) || !same(seen, l[:want]) {
			t.Errorf("left at %d: %d calls, %v", most, calls, at)
		}
	}
	for at, s := range each {
		if at != 0 || !alike(s, l[0]) {
			t.Errorf("the first: %d, %v", at, s)
		}
		break
	}
}

// P2.1: gone over again it tells the same, also from within itself, and whatever was done to its data.
func TestEachAgain(t *testing.T) {
	l := someSteps()
	raw, places := forms(l)
	each := script.Each(raw)
	for range 3 {
		i := 0
		for at, s := range each {
			if at != places[i] || !alike(s, l[i]) {
				t.Fatalf("step %d: %d, %v", i, at, s)
			}
			j := 0
			for again, q := range each {
				if again != places[j] || !alike(q, l[j]) {
					t.Fatalf("within step %d, step %d: %d, %v", i, j, again, q)
				}
				clear(q.Data)
				j++
			}
			if j != len(l) || !alike(s, l[i]) {
				t.Fatalf("within step %d: %d steps, and it is %v", i, j, s)
			}
			clear(s.Data)
			i++
		}
		if i != len(l) {
			t.Fatalf("%d steps", i)
		}
	}
}

// P2.1: a sequence of nothing calls nobody.
func TestEachOfNothing(t *testing.T) {
	for _, raw := range [][]byte{nil, {}} {
		for at, s := range script.Each(raw) {
			t.Errorf("Each of nothing: %d, %v", at, s)
		}
	}
}
