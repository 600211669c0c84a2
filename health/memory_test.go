package health_test

import (
	"math/rand"
	"testing"

	"turnpike/health"
)

// P17.8: several states, probed in turn, copies among them, each like a model of its own.
func TestStatesAreApart(t *testing.T) {
	r := rand.New(rand.NewSource(7))
	for range 200 {
		var states []*health.State
		var models []*model
		for range 3 {
			rise, fall := someThreshold(r), someThreshold(r)
			states, models = append(states, begin(t, rise, fall)), append(models, &model{rise: rise, fall: fall})
		}
		for range 60 {
			i := r.Intn(len(states))
			if r.Intn(10) == 0 {
				c := *models[i]
				c.behind, c.times = append([]bool(nil), c.behind...), append([]float64(nil), c.times...)
				states, models = append(states, states[i].Copy()), append(models, &c)
				continue
			}
			p := probe{r.Intn(2) == 0, r.Float64() * 10}
			states[i].Probe(p.ok, p.took)
			models[i].probe(p)
		}
		for i, s := range states {
			want(t, s, models[i].tell())
		}
	}
}

// P17.3: a copy tells the same, goes the same way, and the state goes on without it.
func TestCopy(t *testing.T) {
	r := rand.New(rand.NewSource(8))
	for range 1000 {
		rise, fall := someThreshold(r), someThreshold(r)
		s := begin(t, rise, fall)
		for _, p := range someProbes(r, rise, fall, 3) {
			s.Probe(p.ok, p.took)
		}
		was := tell(s)
		c := s.Copy()
		want(t, c, was)
		further := someProbes(r, rise, fall, 4)
		for _, p := range further {
			c.Probe(p.ok, p.took)
		}
		want(t, s, was)
		ended := tell(c)
		for _, p := range further {
			s.Probe(p.ok, p.took)
		}
		want(t, s, ended)
		want(t, c, ended)
	}
}

// P17.3, P17.4: asking changes nothing.
func TestAskingChangesNothing(t *testing.T) {
	s, o := begin(t, 2, 2), begin(t, 2, 2)
	good(t, s, 8)
	bad(t, o, 1)
	wasS, wasO := tell(s), tell(o)
	for range 3 {
		s.Slower(o)
		o.Slower(s)
		s.Copy()
		o.Copy()
	}
	want(t, s, wasS)
	want(t, o, wasO)
}
