package registry_test

import (
	"fmt"
	"maps"
	"math"
	"math/rand"
	"slices"
	"testing"

	"turnpike/api"
	"turnpike/health"
	"turnpike/registry"
)

// call is one that a registry gets: a Set, or, with an endpoint, a Probe.
type call struct {
	set      []api.Resource
	isProbe  bool
	endpoint string
	ok       bool
	took     float64
}

func setOf(l ...api.Resource) call { return call{set: l} }

func probeOf(endpoint string, ok bool, took float64) call {
	return call{isProbe: true, endpoint: endpoint, ok: ok, took: took}
}

func (c call) of(r *registry.Registry) api.Errno {
	if c.isProbe {
		return r.Probe(c.endpoint, c.ok, c.took)
	}
	return r.Set(c.set)
}

// model keeps the services as they were set and all probes of each endpoint, and works out from them what is told.
type model struct {
	rise, fall int
	services   []api.Resource
	probes     map[string][]call // of the endpoints that there are
	epoch      int
}

func (m *model) copy() *model {
	c := *m
	c.probes = maps.Clone(m.probes)
	for endpoint, l := range c.probes {
		c.probes[endpoint] = slices.Clone(l)
	}
	return &c
}

// state: layer 17's, behind all probes of the endpoint.
func (m *model) state(endpoint string) *health.State {
	l, is := m.probes[endpoint]
	if !is {
		return nil
	}
	s, _ := health.New(m.rise, m.fall)
	for _, c := range l {
		s.Probe(c.ok, c.took)
	}
	return s
}

func (m *model) view() []api.Healthy {
	var names []string
	for _, s := range m.services {
		names = append(names, s.Name)
	}
	slices.Sort(names)
	var l []api.Healthy
	for _, name := range names {
		s := m.services[slices.IndexFunc(m.services, func(s api.Resource) bool { return s.Name == name })]
		h := api.Healthy{Service: name}
		for i, endpoint := range s.Endpoints {
			if slices.Index(s.Endpoints, endpoint) == i && m.state(endpoint).Healthy() {
				h.Endpoints = append(h.Endpoints, endpoint)
			}
		}
		l = append(l, h)
	}
	return l
}

func (m *model) set(l []api.Resource) api.Errno {
	l = slices.DeleteFunc(slices.Clone(l), func(s api.Resource) bool { return s.Kind != api.Service })
	for i, s := range l {
		for _, other := range l[:i] {
			if s.Name == other.Name {
				return api.ErrArg
			}
		}
	}
	probes := map[string][]call{}
	for _, s := range l {
		for _, endpoint := range s.Endpoints {
			probes[endpoint] = m.probes[endpoint]
		}
	}
	m.services, m.probes = l, probes
	return api.OK
}

func (m *model) probe(c call) api.Errno {
	if _, is := m.probes[c.endpoint]; !is {
		return api.ErrArg
	}
	m.probes[c.endpoint] = append(m.probes[c.endpoint], c)
	return api.OK
}

func (m *model) take(c call) api.Errno {
	before := fmt.Sprintf("%q", m.view())
	var e api.Errno
	if c.isProbe {
		e = m.probe(c)
	} else {
		e = m.set(c.set)
	}
	if fmt.Sprintf("%q", m.view()) != before {
		m.epoch++
	}
	return e
}

// tell: all that the model says of what a registry tells, of these endpoints among it.
func (m *model) tell(endpoints []string) string {
	told := fmt.Sprintf("%q %d %q", m.view(), m.epoch, slices.Sorted(maps.Keys(m.probes)))
	for _, endpoint := range endpoints {
		s := m.state(endpoint)
		told += fmt.Sprintf(" %v %x", s.Healthy(), math.Float64bits(s.Took()))
	}
	return told
}

func tell(r *registry.Registry, endpoints []string) string {
	told := fmt.Sprintf("%q %d %q", r.View(), r.Epoch(), r.Endpoints())
	for _, endpoint := range endpoints {
		told += fmt.Sprintf(" %v %x", r.Healthy(endpoint), math.Float64bits(r.Took(endpoint)))
	}
	return told
}

func wantAs(t *testing.T, r *registry.Registry, m *model, endpoints []string) {
	t.Helper()
	if got, want := tell(r, endpoints), m.tell(endpoints); got != want {
		t.Fatalf("%s, want %s", got, want)
	}
}

// P18.2 to P18.5: every row of up to four calls out of these, each going on from a copy.
func TestEveryShortRow(t *testing.T) {
	calls := []call{
		setOf(),
		setOf(service("a", "e", "f")),
		setOf(service("a", "f", "e", "f")),
		setOf(service("a", "f")),
		setOf(service("b", "e"), service("a", "e", "f")),
		setOf(service("b", "f", "e"), service("a")),
		setOf(service("a"), service("b"), service("a")),
		probeOf("e", true, 4), probeOf("e", false, 4), probeOf("f", true, 8), probeOf("f", false, 8),
	}
	endpoints := []string{"e", "f", "g"}
	var further func(r *registry.Registry, m *model, left int)
	further = func(r *registry.Registry, m *model, left int) {
		if left == 0 {
			return
		}
		was := tell(r, endpoints)
		for _, c := range calls {
			r2, m2 := r.Copy(), m.copy()
			if got, want := c.of(r2), m2.take(c); got != want {
				t.Fatalf("%+v: error %d, want %d", c, int(got), int(want))
			}
			wantAs(t, r2, m2, endpoints)
			further(r2, m2, left-1)
		}
		if now := tell(r, endpoints); now != was {
			t.Fatalf("a copy's calls: %s, was %s", now, was)
		}
	}
	for _, c := range [][2]int{{1, 1}, {1, 2}, {2, 1}} {
		r, m := begin(t, c[0], c[1]), &model{rise: c[0], fall: c[1]}
		wantAs(t, r, m, endpoints)
		further(r, m, 4)
	}
}

func one[T any](r *rand.Rand, l []T) T { return l[r.Intn(len(l))] }

func someEndpoints() []string { return []string{"e1", "e2", "e3", "e4", "e10", "E1", "", "\xff"} }

// someResources: services for the most part, now and then two of one name.
func someResources(r *rand.Rand) []api.Resource {
	var l []api.Resource
	names := []string{"a", "b", "c", "B", "", "a-", "\x80", "d", "e", "f"}
	r.Shuffle(len(names), func(i, j int) { names[i], names[j] = names[j], names[i] })
	for i := range r.Intn(6) {
		s := service(names[i])
		if r.Intn(20) == 0 {
			s.Name = names[0]
		}
		if r.Intn(6) == 0 {
			s.Kind = r.Intn(7) - 1
		}
		for range r.Intn(5) {
			s.Endpoints = append(s.Endpoints, one(r, someEndpoints()))
		}
		l = append(l, s)
	}
	return l
}

// someProbe: such that endpoints turn often, as each is well or not for some time.
func someProbe(r *rand.Rand, round int) call {
	endpoint := one(r, someEndpoints())
	well := (round/10+len(endpoint))%2 == 0
	if r.Intn(5) == 0 {
		well = !well
	}
	return probeOf(endpoint, well, one(r, []float64{0, 1, 3, 0.1, -1, math.NaN(), math.Inf(1), r.Float64() * 100}))
}

func someCall(r *rand.Rand, round int) call {
	if r.Intn(8) == 0 {
		return setOf(someResources(r)...)
	}
	return someProbe(r, round)
}

// P18.2 to P18.4: against the model, behind each call.
func TestAgainstModel(t *testing.T) {
	r := rand.New(rand.NewSource(1))
	epochs, refused := 0, map[bool]int{}
	for range 300 {
		rise, fall := 1+r.Intn(3), 1+r.Intn(3)
		got, m := begin(t, rise, fall), &model{rise: rise, fall: fall}
		for round := range 60 {
			c := someCall(r, round)
			e, want := c.of(got), m.take(c)
			if e != want {
				t.Fatalf("%+v: error %d, want %d", c, int(e), int(want))
			}
			if e != api.OK {
				refused[c.isProbe]++
			}
			wantAs(t, got, m, someEndpoints())
		}
		epochs += m.epoch
	}
	if epochs < 2000 || refused[true] < 500 || refused[false] < 50 {
		t.Errorf("epochs %d, refused %v", epochs, refused)
	}
}
