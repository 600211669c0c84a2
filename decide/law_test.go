package decide_test

import (
	"math"
	"math/rand"
	"slices"
	"testing"

	"turnpike/api"
	"turnpike/decide"
)

// P16.6: what the draws and the healthy endpoints have no say in.
func TestDeniedWhateverIsDrawn(t *testing.T) {
	r := rand.New(rand.NewSource(2))
	kinds := map[int]int{}
	for range 50000 {
		x, q := someTables(r), someRequest(r)
		d := decide.Decide(x, someHealthy(r), q.method, q.host, q.path, someReal(r), one(r, someNumbers()))
		if d.Kind != api.Denied && d.Kind != api.NoRule && d.Kind != api.NoRoute {
			continue
		}
		kinds[d.Kind]++
		if d.Service != "" || d.Endpoint != "" {
			t.Fatalf("%+v", d)
		}
		for range 5 {
			if other := decide.Decide(x, someHealthy(r), q.method, q.host, q.path, someReal(r), one(r, someNumbers())); other != d {
				t.Fatalf("%+v, %+v: %+v and %+v", x, q, d, other)
			}
			if other := decide.Words(x, someHealthy(r), q.method, q.host, q.path, r.Uint64(), r.Uint64()); other != d {
				t.Fatalf("%+v, %+v: %+v and %+v", x, q, d, other)
			}
		}
	}
	if len(kinds) != 3 || kinds[api.Denied] < 1000 || kinds[api.NoRule] < 1000 || kinds[api.NoRoute] < 1000 {
		t.Errorf("%v", kinds)
	}
}

// P16.6: what is forwarded.
func TestForwardedToAHealthyOne(t *testing.T) {
	r := rand.New(rand.NewSource(3))
	forwarded := 0
	for range 100000 {
		x, h, q := someTables(r), someHealthy(r), someRequest(r)
		d := decide.Decide(x, h, q.method, q.host, q.path, someReal(r), one(r, someNumbers()))
		if d.Kind != api.Forward {
			continue
		}
		forwarded++
		first := slices.IndexFunc(h, func(y api.Healthy) bool { return y.Service == d.Service })
		if first < 0 || !slices.Contains(h[first].Endpoints, d.Endpoint) {
			t.Fatalf("%+v is not healthy: %+v", d, h)
		}
		host := x.Hosts[decide.Find(x, q.host)]
		if host.Route != d.Route || decide.Rule(host, q.method, q.path) != d.Rule {
			t.Fatalf("%+v of %+v", d, host)
		}
		if !slices.ContainsFunc(host.Entries[d.Rule].Shares, func(s api.Share) bool { return s.Service == d.Service }) {
			t.Fatalf("%+v has no share: %+v", d, host.Entries[d.Rule])
		}
		if is, _ := decide.Allowed(host, q.method, q.path); !is {
			t.Fatalf("%+v of %+v, %+v", d, host, q)
		}
	}
	if forwarded < 3000 {
		t.Errorf("%d forwarded", forwarded)
	}
}

// P16.7: each healthy endpoint once.
func TestEachEndpointOnce(t *testing.T) {
	r := rand.New(rand.NewSource(4))
	several := 0
	for range 50000 {
		x, h, q, u := someTables(r), someHealthy(r), someRequest(r), someReal(r)
		d := decide.Decide(x, h, q.method, q.host, q.path, u, 0)
		if d.Kind != api.Forward {
			continue
		}
		want := modelEndpoints(h, d.Service)
		var picked []string
		for n := range len(want) {
			next := decide.Decide(x, h, q.method, q.host, q.path, u, n)
			picked = append(picked, next.Endpoint)
			next.Endpoint = d.Endpoint
			if next != d {
				t.Fatalf("n %d: %+v, was %+v", n, next, d)
			}
		}
		if !slices.Equal(picked, want) {
			t.Fatalf("%q of %q", picked, want)
		}
		if len(want) > 1 {
			several++
		}
	}
	if several < 1000 {
		t.Errorf("%d with several", several)
	}
}

// numbered: the entry with services of which each stands there once, so that a service tells its share.
func numbered(e api.Entry) api.Entry {
	for i := range e.Shares {
		e.Shares[i].Service = string([]byte{'0' + byte(i)})
	}
	return e
}

// P16.7: of any steps, whether they rise or not.
func TestGreaterDrawsPickNoEarlierShare(t *testing.T) {
	r := rand.New(rand.NewSource(5))
	later := 0
	for range 50000 {
		e := numbered(someEntry(r))
		a, b := someReal(r), someReal(r)
		if math.IsNaN(a) || math.IsNaN(b) || len(e.Shares) == 0 {
			continue
		}
		low, high := decide.Share(e, min(a, b)), decide.Share(e, max(a, b))
		if low > high {
			t.Fatalf("%+v: %g picks %s, %g picks %s", e, min(a, b), low, max(a, b), high)
		}
		if low < high {
			later++
		}
	}
	if later < 3000 {
		t.Errorf("%d with a later one", later)
	}
}
