package script_test

import (
	"bytes"
	"math"
	"math/rand"
	"slices"
	"testing"

	"turnpike/api"
	"turnpike/script"
)

const maxData = 65535

// carriers: the Ops that carry data, as the chapter lists them.
func carriers() []int { return []int{3, 5, 10, 11, 13} }

// byTheWords: the steps of raw and the place of each one's first byte, as the chapter words it, byte by byte.
func byTheWords(raw []byte) ([]script.Step, []int) {
	var l []script.Step
	var places []int
	at := 0
	wanted := func() int {
		if at >= len(raw) {
			return 0
		}
		at++
		return int(raw[at-1])
	}
	for at < len(raw) {
		places = append(places, at)
		s := script.Step{Op: wanted() % 16, A: wanted(), B: wanted()}
		if slices.Contains(carriers(), s.Op) {
			low := wanted()
			for range low + 256*wanted() {
				if at < len(raw) {
					s.Data = append(s.Data, byte(wanted()))
				}
			}
		}
		l = append(l, s)
	}
	return l, places
}

// byTheForm: the form of a step that may be, as the chapter words it.
func byTheForm(s script.Step) []byte {
	f := []byte{byte(s.Op), byte(s.A), byte(s.B)}
	if slices.Contains(carriers(), s.Op) {
		f = append(f, byte(len(s.Data)%256), byte(len(s.Data)/256))
		f = append(f, s.Data...)
	}
	return f
}

// forms: the forms of steps, one behind the other, and the place of each.
func forms(l []script.Step) ([]byte, []int) {
	var raw []byte
	var places []int
	for _, s := range l {
		places = append(places, len(raw))
		raw = append(raw, byTheForm(s)...)
	}
	return raw, places
}

func alike(a, b script.Step) bool {
	return a.Op == b.Op && a.A == b.A && a.B == b.B && bytes.Equal(a.Data, b.Data)
}

func same(a, b []script.Step) bool { return slices.EqualFunc(a, b, alike) }

// wantSteps: Decode and Each of raw tell just these steps, at these places.
func wantSteps(t *testing.T, name string, raw []byte, want []script.Step, places []int) {
	t.Helper()
	if got := script.Decode(raw); !same(got, want) {
		t.Errorf("Decode, %s: %.100x: %v, want %v", name, raw, brief(got), brief(want))
	}
	var at []int
	var seen []script.Step
	for i, s := range script.Each(raw) {
		at, seen = append(at, i), append(seen, s)
	}
	if !same(seen, want) || !slices.Equal(at, places) {
		t.Errorf("Each, %s: %.100x: %v at %v, want %v at %v", name, raw, brief(seen), at, brief(want), places)
	}
}

// brief: the first steps alone, so that a fault can be read.
func brief(l []script.Step) []script.Step {
	var out []script.Step
	for _, s := range l[:min(4, len(l))] {
		s.Data = s.Data[:min(20, len(s.Data))]
		out = append(out, s)
	}
	return out
}

func wantBytes(t *testing.T, name string, l []script.Step, want []byte) {
	t.Helper()
	if got, e := script.Encode(l); e != api.OK || !bytes.Equal(got, want) {
		t.Errorf("Encode, %s: %v: %.100x, %v, want %.100x", name, brief(l), got, e, want)
	}
}

func wantRefused(t *testing.T, name string, l []script.Step) {
	t.Helper()
	if got, e := script.Encode(l); e != api.ErrArg || len(got) != 0 {
		t.Errorf("Encode, %s: %v: %.100x, %v, want ErrArg and nothing", name, brief(l), got, e)
	}
}

func noise(r *rand.Rand, n int) []byte {
	p := make([]byte, n)
	r.Read(p)
	return p
}

// anyStep: a step that may be.
func anyStep(r *rand.Rand) script.Step {
	s := script.Step{Op: r.Intn(16), A: r.Intn(256), B: r.Intn(256)}
	if slices.Contains(carriers(), s.Op) {
		s.Data = noise(r, r.Intn(20))
	}
	return s
}

// someSteps: one of each Op, data of no bytes, and data that is itself a row of forms.
func someSteps() []script.Step {
	inner, _ := forms([]script.Step{{Op: script.Pick, A: 1}, {Op: script.Bytes, Data: []byte("in")}})
	l := []script.Step{{Op: script.Bytes, A: 255, B: 255, Data: inner}, {Op: script.Draw}}
	for op := range 16 {
		s := script.Step{Op: op, A: 16 * op, B: 255 - op}
		if slices.Contains(carriers(), op) {
			s.Data = bytes.Repeat([]byte{byte(op), 0, 255}, op)
		}
		l = append(l, s)
	}
	return append(l, script.Step{Op: script.Crash}, script.Step{})
}

// The numbers of the Ops: all else hangs on them.
func TestOps(t *testing.T) {
	ops := []int{
		script.Tick, script.Pick, script.Open, script.Bytes, script.Close, script.Answer, script.Hangup, script.Pass,
		script.Reset, script.Refuse, script.Draw, script.Admin, script.Beat, script.Crash, script.Drop, script.Rest,
	}
	for i, op := range ops {
		if op != i {
			t.Errorf("the Op %d is %d", i, op)
		}
	}
	if len(ops) != 16 {
		t.Errorf("%d Ops", len(ops))
	}
}

// P2.3.
func TestCarries(t *testing.T) {
	for op := -300; op < 600; op++ {
		if got := script.Carries(op); got != slices.Contains(carriers(), op) {
			t.Errorf("Carries(%d) is %v", op, got)
		}
	}
	for _, op := range []int{math.MinInt, math.MinInt32, -1, 16, 19, 256 + 3, math.MaxInt32, math.MaxInt, math.MinInt + 3} {
		if script.Carries(op) {
			t.Errorf("Carries(%d)", op)
		}
	}
}
