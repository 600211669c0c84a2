package health_test

import (
	"math"
	"math/big"
	"math/rand"
	"testing"

	"turnpike/api"
	"turnpike/health"
)

// probe is one that a state gets.
type probe struct {
	ok   bool
	took float64
}

// model keeps all probes behind the last change, and all times that counted, and works out from them what is told.
type model struct {
	rise, fall int
	down       bool
	behind     []bool
	times      []float64
	turns      int
}

// alike: how many of the last probes are as ok says, with no other one between.
func (m *model) alike(ok bool) int {
	n := 0
	for n < len(m.behind) && m.behind[len(m.behind)-1-n] == ok {
		n++
	}
	return n
}

func (m *model) probe(p probe) {
	m.behind = append(m.behind, p.ok)
	if m.down && m.alike(true) >= m.rise || !m.down && m.alike(false) >= m.fall {
		m.down, m.behind = !m.down, nil
		m.turns++
	}
	if p.ok && !math.IsNaN(p.took) && !math.IsInf(p.took, 0) && (p.took == 0 || !math.Signbit(p.took)) {
		m.times = append(m.times, p.took)
	}
}

func exact(x float64) *big.Rat { return new(big.Rat).SetFloat64(x) }

// nearest: the one real that is nearest, ties to even; +0 of what is 0.
func nearest(x *big.Rat) float64 {
	y, _ := x.Float64()
	return y + 0
}

// took: the time, each operation in fractions without an end and then rounded.
func (m *model) took() float64 {
	var s float64
	for i, t := range m.times {
		if i == 0 {
			s = nearest(exact(t))
			continue
		}
		difference := nearest(new(big.Rat).Sub(exact(t), exact(s)))
		quarter := nearest(new(big.Rat).Mul(exact(difference), big.NewRat(1, 4)))
		s = nearest(new(big.Rat).Add(exact(s), exact(quarter)))
	}
	return s
}

func (m *model) tell() told {
	row := m.alike(true) - m.alike(false)
	return tellOf(!m.down, row, m.took(), len(m.times), m.turns)
}

// P17.2, P17.3: every row of up to nine probes, with all thresholds up to four.
func TestEveryShortRow(t *testing.T) {
	for rise := 1; rise <= 4; rise++ {
		for fall := 1; fall <= 4; fall++ {
			for bits := range 1 << 9 {
				s, m := begin(t, rise, fall), &model{rise: rise, fall: fall}
				for i := range 9 {
					p := probe{bits>>i&1 == 1, float64(i)}
					s.Probe(p.ok, p.took)
					m.probe(p)
				}
				want(t, s, m.tell())
			}
		}
	}
}

func one[T any](r *rand.Rand, l []T) T { return l[r.Intn(len(l))] }

// someTime: one at an edge, any whose bits are any, or a usual one.
func someTime(r *rand.Rand) float64 {
	switch r.Intn(4) {
	case 0:
		return one(r, []float64{0, minus0, 1, -1, 0.1, tiny, 2 * tiny, 3 * tiny, -tiny, 0x1p-1022, 0x1p-1022 - tiny, huge, -huge, 0x1p1023, nan, inf, under})
	case 1:
		return math.Float64frombits(r.Uint64())
	case 2:
		return float64(r.Intn(40)) * tiny
	}
	return r.Float64() * 100
}

// someProbes: rows of them about as long as the thresholds.
func someProbes(r *rand.Rand, rise, fall, rows int) []probe {
	var l []probe
	for i := range rows {
		for range 1 + r.Intn(max(rise, fall)+3) {
			l = append(l, probe{i%2 == 0, someTime(r)})
		}
	}
	return l[r.Intn(len(l)):]
}

func someThreshold(r *rand.Rand) int {
	if r.Intn(8) == 0 {
		return 1 + r.Intn(health.MaxRow)
	}
	return 1 + r.Intn(5)
}

// P17.2, P17.3: against the model, behind each probe.
func TestAgainstModel(t *testing.T) {
	r := rand.New(rand.NewSource(1))
	turns, timed := 0, 0
	for range 1500 {
		rise, fall := someThreshold(r), someThreshold(r)
		s, m := begin(t, rise, fall), &model{rise: rise, fall: fall}
		for _, p := range someProbes(r, rise, fall, 6) {
			if e := s.Probe(p.ok, p.took); e != api.OK {
				t.Fatalf("error %d", int(e))
			}
			m.probe(p)
		}
		want(t, s, m.tell())
		turns, timed = turns+m.turns, timed+len(m.times)
	}
	if turns < 1500 || timed < 5000 {
		t.Errorf("%d turns, %d times", turns, timed)
	}
}
