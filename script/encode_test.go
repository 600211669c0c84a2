package script_test

import (
	"math"
	"math/rand"
	"slices"
	"testing"

	"turnpike/api"
	"turnpike/script"
)

// P2.2: forms, one behind the other.
func TestEncodeOfForms(t *testing.T) {
	wantBytes(t, "nil", nil, nil)
	wantBytes(t, "none", []script.Step{}, nil)
	wantBytes(t, "one", []script.Step{{Op: script.Pick, A: 5}}, []byte{1, 5, 0})
	wantBytes(t, "data", []script.Step{{Op: script.Bytes, A: 7, B: 1, Data: []byte("abc")}}, []byte("\x03\x07\x01\x03\x00abc"))
	wantBytes(t, "no data", []script.Step{{Op: script.Draw}}, []byte{10, 0, 0, 0, 0})
	wantBytes(t, "two", []script.Step{{Op: script.Rest, A: 255, B: 1}, {Op: script.Admin, B: 2, Data: []byte("xy")}}, []byte("\x0f\xff\x01\x0b\x00\x02\x02\x00xy"))
	l := someSteps()
	for i := range l {
		for j := i; j <= len(l); j++ {
			want, _ := forms(l[i:j])
			wantBytes(t, "some", l[i:j], want)
		}
	}
}

// P2.2: an Op, an A, a B just inside and just outside its bounds.
func TestEncodeAtTheBounds(t *testing.T) {
	outside := []int{-1, -2, -256, -255, math.MinInt, math.MinInt32, math.MaxInt32, math.MaxInt, math.MinInt + 1}
	for op := range 16 {
		for _, n := range []int{0, 1, 127, 128, 254, 255} {
			for _, s := range []script.Step{{Op: op, A: n}, {Op: op, B: n}, {Op: op, A: n, B: 255 - n}} {
				wantBytes(t, "inside", []script.Step{s}, byTheForm(s))
			}
		}
		for _, n := range append(outside, 256, 257, 511, 512, 65536) {
			wantRefused(t, "A", []script.Step{{Op: op, A: n}})
			wantRefused(t, "B", []script.Step{{Op: op, B: n}})
			wantRefused(t, "A and B", []script.Step{{Op: op, A: n, B: n}})
		}
	}
	for _, op := range append(outside, 16, 17, 19, 31, 32, 255, 256, 259) {
		wantRefused(t, "an Op", []script.Step{{Op: op}})
		wantRefused(t, "an Op with data", []script.Step{{Op: op, Data: []byte("x")}})
	}
}

// P2.2: data of 65535 bytes, and of 65536; data that the Op doesn't carry, where a list without bytes is none.
func TestEncodeOfData(t *testing.T) {
	r := rand.New(rand.NewSource(23))
	for op := range 16 {
		if !slices.Contains(carriers(), op) {
			wantBytes(t, "empty data", []script.Step{{Op: op, A: 1, B: 2, Data: []byte{}}}, []byte{byte(op), 1, 2})
			for _, n := range []int{1, 2, 255, 256, maxData, maxData + 1} {
				wantRefused(t, "data that it doesn't carry", []script.Step{{Op: op, Data: make([]byte, n)}})
			}
			continue
		}
		for _, n := range []int{0, 1, 255, 256, 257, maxData - 1, maxData} {
			s := script.Step{Op: op, A: 3, B: 4, Data: noise(r, n)}
			wantBytes(t, "data", []script.Step{s, {}}, append(byTheForm(s), 0, 0, 0))
		}
		for _, n := range []int{maxData + 1, maxData + 2, 2 * (maxData + 1), 2*(maxData+1) + 1} {
			wantRefused(t, "long data", []script.Step{{Op: op, Data: make([]byte, n)}})
		}
	}
}

// P2.2: one that may not be, wherever it stands, is enough; with ErrArg comes nothing else.
func TestEncodeOfOneWrong(t *testing.T) {
	wrong := []script.Step{{Op: 16}, {Op: -1}, {A: 256}, {A: -1}, {B: 256}, {B: -1}, {Op: script.Tick, Data: []byte{1}}, {Op: script.Bytes, Data: make([]byte, maxData+1)}}
	l := someSteps()
	for _, s := range wrong {
		for i := range len(l) + 1 {
			wantRefused(t, "one wrong", slices.Insert(slices.Clone(l), i, s))
		}
	}
	wantRefused(t, "all wrong", wrong)
	if raw, e := script.Encode(append(l, wrong...)); raw != nil || e != api.ErrArg {
		t.Errorf("beside ErrArg: %x", raw)
	}
}

// P2.4: Decode of Encode's bytes are the steps.
func TestThereAndBack(t *testing.T) {
	r := rand.New(rand.NewSource(24))
	lists := [][]script.Step{nil, {{}}, someSteps(), {{Op: script.Bytes, Data: noise(r, maxData)}, {Op: script.Crash, Data: noise(r, maxData)}, {Op: script.Crash}}}
	for range 200 {
		var l []script.Step
		for range r.Intn(9) {
			l = append(l, anyStep(r))
		}
		lists = append(lists, l)
	}
	for _, l := range lists {
		raw, e := script.Encode(l)
		if e != api.OK {
			t.Fatalf("Encode of %v: %v", brief(l), e)
		}
		_, places := forms(l)
		wantSteps(t, "there and back", raw, l, places)
		for _, tail := range [][]byte{{0}, {3}, {0x1d, 2}, {10, 1, 2, 255, 255, 7}, noise(r, 30)} {
			behind, at := byTheWords(tail)
			for i := range at {
				at[i] += len(raw)
			}
			wantSteps(t, "others behind", slices.Concat(raw, tail), slices.Concat(l, behind), slices.Concat(places, at))
		}
	}
}

// P2.4: of whatever bytes the steps may be, and Encode of them, decoded, are the same steps.
func TestStepsOfAnyBytesMayBe(t *testing.T) {
	r := rand.New(rand.NewSource(25))
	scripts := [][]byte{nil, {0}, {3}, {0xff}, {10, 0, 0, 255, 255}, noise(r, 150000)}
	for range 1000 {
		scripts = append(scripts, noise(r, r.Intn(60)))
	}
	for _, raw := range scripts {
		l := script.Decode(raw)
		again, e := script.Encode(l)
		if e != api.OK {
			t.Fatalf("%.100x: its steps may not be: %v", raw, e)
		}
		if back := script.Decode(again); !same(back, l) {
			t.Errorf("%.100x: %v, and encoded and decoded %v", raw, brief(l), brief(back))
		}
	}
}
