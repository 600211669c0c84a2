package health_test

import (
	"math"
	"testing"

	"turnpike/api"
	"turnpike/health"
)

// Reals at their edges.
var (
	nan    = math.NaN()
	inf    = math.Inf(1)
	under  = math.Inf(-1)
	minus0 = math.Copysign(0, -1)
	tiny   = math.SmallestNonzeroFloat64
	huge   = math.MaxFloat64
)

// mostAlike: a row is never further from 0.
const mostAlike = 1000000

// told is all that a state tells.
type told struct {
	healthy    bool
	row        int
	took       uint64 // the bits of the time, so that -0 is told from 0
	timed, all int    // all: the turns
}

func tell(s *health.State) told {
	return told{s.Healthy(), s.Row(), math.Float64bits(s.Took()), s.Timed(), s.Turns()}
}

func tellOf(healthy bool, row int, took float64, timed, turns int) told {
	return told{healthy, row, math.Float64bits(took), timed, turns}
}

func want(t *testing.T, s *health.State, w told) {
	t.Helper()
	if got := tell(s); got != w {
		t.Fatalf("%+v, want %+v (took %g, want %g)", got, w, s.Took(), math.Float64frombits(w.took))
	}
}

func begin(t *testing.T, rise, fall int) *health.State {
	t.Helper()
	s, e := health.New(rise, fall)
	if e != api.OK || s == nil {
		t.Fatalf("New(%d, %d): error %d", rise, fall, int(e))
	}
	return s
}

func good(t *testing.T, s *health.State, times ...float64) {
	t.Helper()
	for _, x := range times {
		if e := s.Probe(true, x); e != api.OK {
			t.Fatalf("a good probe with %g: error %d", x, int(e))
		}
	}
}

func bad(t *testing.T, s *health.State, times ...float64) {
	t.Helper()
	for _, x := range times {
		if e := s.Probe(false, x); e != api.OK {
			t.Fatalf("a bad probe with %g: error %d", x, int(e))
		}
	}
}

// repeat: so many probes alike, without a time that counts.
func repeat(t *testing.T, s *health.State, ok bool, times int) {
	t.Helper()
	for range times {
		if e := s.Probe(ok, -1); e != api.OK {
			t.Fatalf("error %d", int(e))
		}
	}
}

// P17.1: the thresholds' edges.
func TestNew(t *testing.T) {
	if health.MaxRow != 100 {
		t.Errorf("MaxRow: %d", health.MaxRow)
	}
	for _, rise := range []int{1, 2, 50, 99, 100} {
		for _, fall := range []int{1, 2, 50, 99, 100} {
			want(t, begin(t, rise, fall), tellOf(true, 0, 0, 0, 0))
		}
	}
}

// P17.1: what may not be, as rise, as fall, and as both.
func TestNewRefuses(t *testing.T) {
	for _, x := range []int{0, -1, -2, -100, 101, 102, 1 << 32, 1<<32 + 1, math.MinInt, math.MaxInt} {
		for _, c := range [][2]int{{x, 1}, {1, x}, {x, 100}, {100, x}, {x, x}} {
			if s, e := health.New(c[0], c[1]); s != nil || e != api.ErrArg {
				t.Errorf("New(%d, %d): %v, error %d", c[0], c[1], s, int(e))
			}
		}
	}
}

// P17.2, P17.3: the chapter's examples.
func TestExamples(t *testing.T) {
	s := begin(t, 2, 3)
	want(t, s, tellOf(true, 0, 0, 0, 0))
	bad(t, s, 0, 0)
	good(t, s, nan)
	want(t, s, tellOf(true, 1, 0, 0, 0))
	bad(t, s, 0, 0, 0)
	want(t, s, tellOf(false, 0, 0, 0, 1))
	good(t, s, nan)
	want(t, s, tellOf(false, 1, 0, 0, 1))
	good(t, s, nan)
	want(t, s, tellOf(true, 0, 0, 0, 2))
	good(t, s, 8, 4)
	want(t, s, tellOf(true, 2, 7, 2, 2))
	good(t, s, nan, inf, -1)
	want(t, s, tellOf(true, 5, 7, 2, 2))
	bad(t, s, 1)
	want(t, s, tellOf(true, -1, 7, 2, 2))
}

// P17.2: thresholds of 1, at which no row is to be seen where a probe turns the state.
func TestThresholdsOfOne(t *testing.T) {
	s := begin(t, 1, 1)
	for turns := 0; turns < 10; turns += 2 {
		good(t, s, nan, nan)
		want(t, s, tellOf(true, 2, 0, 0, turns))
		bad(t, s, 0)
		want(t, s, tellOf(false, 0, 0, 0, turns+1))
		bad(t, s, 0, 0)
		want(t, s, tellOf(false, -2, 0, 0, turns+1))
		good(t, s, nan)
		want(t, s, tellOf(true, 0, 0, 0, turns+2))
	}
}

// P17.2: rise and fall are not each other's, and count to their ends.
func TestThresholdsToTheirEnds(t *testing.T) {
	for _, c := range [][2]int{{1, 100}, {100, 1}, {100, 100}, {99, 100}, {100, 99}, {2, 7}, {7, 2}} {
		rise, fall := c[0], c[1]
		s := begin(t, rise, fall)
		repeat(t, s, false, fall-1)
		want(t, s, tellOf(true, 1-fall, 0, 0, 0))
		repeat(t, s, false, 1)
		want(t, s, tellOf(false, 0, 0, 0, 1))
		repeat(t, s, true, rise-1)
		want(t, s, tellOf(false, rise-1, 0, 0, 1))
		repeat(t, s, true, 1)
		want(t, s, tellOf(true, 0, 0, 0, 2))
	}
}

// P17.2: a row stays where it can't be longer, and the next other probe begins one anew.
func TestLongestRows(t *testing.T) {
	s := begin(t, 2, 2)
	repeat(t, s, true, mostAlike-1)
	want(t, s, tellOf(true, mostAlike-1, 0, 0, 0))
	for range 3 {
		repeat(t, s, true, 1)
		want(t, s, tellOf(true, mostAlike, 0, 0, 0))
	}
	repeat(t, s, false, 1)
	want(t, s, tellOf(true, -1, 0, 0, 0))
	repeat(t, s, false, 1)
	want(t, s, tellOf(false, 0, 0, 0, 1))
	repeat(t, s, false, mostAlike-1)
	want(t, s, tellOf(false, 1-mostAlike, 0, 0, 1))
	for range 3 {
		repeat(t, s, false, 1)
		want(t, s, tellOf(false, -mostAlike, 0, 0, 1))
	}
	repeat(t, s, true, 1)
	want(t, s, tellOf(false, 1, 0, 0, 1))
	repeat(t, s, true, 1)
	want(t, s, tellOf(true, 0, 0, 0, 2))
}

// P17.2: which times count, as the first one and as a further one; -0 is 0.
func TestTimesThatCount(t *testing.T) {
	for _, x := range []float64{nan, inf, under, -1, -tiny, -huge, -0x1p-1022} {
		s := begin(t, 2, 2)
		good(t, s, x)
		want(t, s, tellOf(true, 1, 0, 0, 0))
		good(t, s, 8, x)
		want(t, s, tellOf(true, 3, 8, 1, 0))
	}
	for _, x := range []float64{0, tiny, 0x1p-1022, 0.1, 1, 8, 0x1p1023, huge} {
		s := begin(t, 2, 2)
		good(t, s, x)
		want(t, s, tellOf(true, 1, x, 1, 0))
	}
	s := begin(t, 2, 2)
	good(t, s, minus0)
	want(t, s, tellOf(true, 1, 0, 1, 0))
	good(t, s, minus0)
	want(t, s, tellOf(true, 2, 0, 2, 0))
	good(t, s, 8, minus0)
	want(t, s, tellOf(true, 4, 1.5, 4, 0))
}

// P17.2: a bad probe's time is not looked at, and a time of 0 is not a beginning anew.
func TestTimesThatAreNotLookedAt(t *testing.T) {
	s := begin(t, 1, 100)
	bad(t, s, 1, 0, huge, nan, inf, under, minus0)
	want(t, s, tellOf(true, -7, 0, 0, 0))
	good(t, s, 0, 8)
	want(t, s, tellOf(true, 2, 2, 2, 0))
	bad(t, s, 1, 0, huge, nan, inf, under, minus0)
	want(t, s, tellOf(true, -7, 2, 2, 0))
}

// P17.2: the probe that turns the state has its time counted too.
func TestTimeOfATurn(t *testing.T) {
	s := begin(t, 1, 1)
	bad(t, s, 4)
	good(t, s, 8)
	want(t, s, tellOf(true, 0, 8, 1, 2))
	bad(t, s, 4)
	good(t, s, 4)
	want(t, s, tellOf(true, 0, 7, 2, 4))
}

// P17.2: each operation is rounded by itself: the quotients here lie between two reals.
func TestRoundings(t *testing.T) {
	for _, c := range []struct{ first, then, want float64 }{
		{tiny, 0, tiny},
		{0, tiny, 0},
		{0, 2 * tiny, 0},
		{0, 3 * tiny, tiny},
		{2 * tiny, 0, 2 * tiny},
		{6 * tiny, 0, 4 * tiny},
		{1, 0, 0.75},
		{huge, 0, huge - huge/4},
		{0, huge, huge / 4},
		{0x1p-1022 + tiny, 0, 0x1.8p-1023 + tiny},
	} {
		s := begin(t, 2, 2)
		good(t, s, c.first, c.then)
		want(t, s, tellOf(true, 2, c.want, 2, 0))
	}
}

// P17.2, P17.3, P17.4: a nil state.
func TestNil(t *testing.T) {
	var s *health.State
	for _, ok := range []bool{false, true} {
		for _, x := range []float64{0, 1, -1, nan, inf} {
			if e := s.Probe(ok, x); e != api.ErrNil {
				t.Errorf("Probe(%v, %g): error %d", ok, x, int(e))
			}
		}
	}
	want(t, s, tellOf(false, 0, 0, 0, 0))
	if s.Copy() != nil {
		t.Errorf("Copy: %v", s.Copy())
	}
	o := begin(t, 1, 1)
	good(t, o, 8)
	if s.Slower(o) || o.Slower(s) || s.Slower(nil) {
		t.Errorf("a nil state has a time")
	}
}

// P0.1: a state that no New has made takes whatever is asked of it.
func TestZeroState(t *testing.T) {
	var s health.State
	want(t, &s, tellOf(true, 0, 0, 0, 0))
	repeat(t, &s, false, 200)
	want(t, &s, tellOf(true, -200, 0, 0, 0))
	repeat(t, &s, true, 200)
	want(t, s.Copy(), tellOf(true, 200, 0, 0, 0))
	if s.Slower(&s) {
		t.Errorf("slower than itself")
	}
}

// P17.4: each of several states against each: those without a time are neither slower nor less slow.
func TestSlower(t *testing.T) {
	with := func(times ...float64) *health.State {
		s := begin(t, 2, 3)
		good(t, s, times...)
		return s
	}
	rows := []*health.State{with(0), with(tiny), with(1), with(4, 4), with(8, 4), with(7, nan), with(huge), with(minus0)}
	untimed := []*health.State{with(), with(nan), with(inf), with(-1), nil}
	bad(t, rows[4], 0, 0, 0)
	bad(t, untimed[0], 9)
	for _, s := range rows {
		for _, o := range rows {
			if got, want := s.Slower(o), s.Took() > o.Took(); got != want {
				t.Errorf("%g slower than %g: %v", s.Took(), o.Took(), got)
			}
		}
		for _, o := range untimed {
			if s.Slower(o) || o.Slower(s) {
				t.Errorf("%g and a state without a time", s.Took())
			}
		}
	}
	for _, s := range untimed {
		for _, o := range untimed {
			if s.Slower(o) {
				t.Errorf("two states without a time")
			}
		}
	}
	if !rows[4].Slower(rows[3]) || rows[3].Slower(rows[4]) || rows[4].Slower(rows[5]) || rows[0].Slower(rows[7]) || rows[7].Slower(rows[0]) {
		t.Errorf("of 0, 4 and 7")
	}
}
