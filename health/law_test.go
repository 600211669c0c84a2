package health_test

import (
	"math"
	"math/rand"
	"testing"

	"turnpike/health"
)

// P17.5: it turns only behind as many alike as its threshold says.
func TestTurnsOnlyBehindARow(t *testing.T) {
	r := rand.New(rand.NewSource(2))
	ups, downs := 0, 0
	for range 3000 {
		rise, fall := someThreshold(r), someThreshold(r)
		s := begin(t, rise, fall)
		goods, bads := 0, 0
		for _, p := range someProbes(r, rise, fall, 8) {
			was, turns := s.Healthy(), s.Turns()
			s.Probe(p.ok, p.took)
			if p.ok {
				goods, bads = goods+1, 0
			} else {
				goods, bads = 0, bads+1
			}
			is := s.Healthy()
			if is && !was && goods < rise || was && !is && bads < fall {
				t.Fatalf("rise %d, fall %d: %v behind %d good, %d bad", rise, fall, is, goods, bads)
			}
			if turned := is != was; turned != (s.Turns() == turns+1) || !turned && s.Turns() != turns || turned && s.Row() != 0 {
				t.Fatalf("%v, was %v: turns %d, were %d, row %d", is, was, s.Turns(), turns, s.Row())
			}
			if is && !was {
				ups++
			}
			if was && !is {
				downs++
			}
		}
	}
	if ups < 1000 || downs < 1000 {
		t.Errorf("%d up, %d down", ups, downs)
	}
}

// P17.5: whatever was before, a row as long as its threshold turns it.
func TestARowTurns(t *testing.T) {
	r := rand.New(rand.NewSource(3))
	ups, downs := 0, 0
	for range 5000 {
		rise, fall := someThreshold(r), someThreshold(r)
		s := begin(t, rise, fall)
		for _, p := range someProbes(r, rise, fall, 4) {
			s.Probe(p.ok, p.took)
		}
		was := s.Healthy()
		if was {
			repeat(t, s, false, fall)
			downs++
		} else {
			repeat(t, s, true, rise)
			ups++
		}
		if s.Healthy() == was {
			t.Fatalf("rise %d, fall %d: %v still", rise, fall, was)
		}
		repeat(t, s, true, rise)
		if !s.Healthy() {
			t.Fatalf("rise %d: not up", rise)
		}
		repeat(t, s, false, fall)
		if s.Healthy() {
			t.Fatalf("fall %d: not down", fall)
		}
	}
	if ups < 500 || downs < 500 {
		t.Errorf("%d up, %d down", ups, downs)
	}
}

// P17.6: between the least and the greatest of the times that counted.
func TestTimesStayBetween(t *testing.T) {
	r := rand.New(rand.NewSource(4))
	for range 20000 {
		s := begin(t, 1, 1)
		least, greatest := inf, under
		for range 1 + r.Intn(12) {
			x := someTime(r)
			before := s.Timed()
			good(t, s, x)
			if s.Timed() > before {
				least, greatest = min(least, math.Abs(x)), max(greatest, math.Abs(x))
			}
			if s.Timed() > 0 && !(s.Took() >= least && s.Took() <= greatest) {
				t.Fatalf("%g is not from %g to %g", s.Took(), least, greatest)
			}
		}
	}
}

// P17.6: of one time however often that one.
func TestOneTimeStays(t *testing.T) {
	r := rand.New(rand.NewSource(5))
	for range 5000 {
		s, x := begin(t, 1, 1), math.Abs(someTime(r))
		for range 1 + r.Intn(12) {
			good(t, s, x, nan)
		}
		if s.Timed() > 0 && math.Float64bits(s.Took()) != math.Float64bits(x) {
			t.Fatalf("%g became %g", x, s.Took())
		}
	}
}

// P17.7: two states with one rise and fall, behind good ones and then bad ones, or the other way round, and from there on.
func TestStatesBecomeAlike(t *testing.T) {
	r := rand.New(rand.NewSource(6))
	unlike := 0
	for range 5000 {
		rise, fall := someThreshold(r), someThreshold(r)
		a, b := begin(t, rise, fall), begin(t, rise, fall)
		for _, p := range someProbes(r, rise, fall, 1+r.Intn(5)) {
			a.Probe(p.ok, p.took)
		}
		for _, p := range someProbes(r, rise, fall, 1+r.Intn(5)) {
			b.Probe(p.ok, p.took)
		}
		if a.Healthy() != b.Healthy() || a.Row() != b.Row() {
			unlike++
		}
		both := []*health.State{a, b}
		goodFirst := r.Intn(2) == 0
		for _, s := range both {
			if goodFirst {
				repeat(t, s, true, rise)
				repeat(t, s, false, fall)
			} else {
				repeat(t, s, false, fall)
				repeat(t, s, true, rise)
			}
			if s.Healthy() == goodFirst || s.Row() != 0 {
				t.Fatalf("good first %v: %v, row %d", goodFirst, s.Healthy(), s.Row())
			}
		}
		for _, p := range someProbes(r, rise, fall, 4) {
			a.Probe(p.ok, p.took)
			b.Probe(p.ok, p.took)
			if a.Healthy() != b.Healthy() || a.Row() != b.Row() {
				t.Fatalf("rise %d, fall %d: %v, row %d and %v, row %d", rise, fall, a.Healthy(), a.Row(), b.Healthy(), b.Row())
			}
		}
	}
	if unlike < 2000 {
		t.Errorf("%d unlike ones", unlike)
	}
}
