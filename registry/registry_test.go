package registry_test

import (
	"math"
	"slices"
	"strings"
	"testing"

	"turnpike/api"
	"turnpike/health"
	"turnpike/registry"
)

func resource(kind int, name string, endpoints ...string) api.Resource {
	return api.Resource{Kind: kind, Name: name, Endpoints: endpoints}
}

func service(name string, endpoints ...string) api.Resource {
	return resource(api.Service, name, endpoints...)
}

func list(l ...api.Resource) []api.Resource { return l }

func begin(t *testing.T, rise, fall int) *registry.Registry {
	t.Helper()
	r, e := registry.New(rise, fall)
	if e != api.OK || r == nil {
		t.Fatalf("New(%d, %d): error %d", rise, fall, int(e))
	}
	return r
}

func set(t *testing.T, r *registry.Registry, l ...api.Resource) {
	t.Helper()
	if e := r.Set(l); e != api.OK {
		t.Fatalf("Set: error %d", int(e))
	}
}

func good(t *testing.T, r *registry.Registry, endpoint string, times ...float64) {
	t.Helper()
	for _, x := range times {
		if e := r.Probe(endpoint, true, x); e != api.OK {
			t.Fatalf("a good probe of %q: error %d", endpoint, int(e))
		}
	}
}

func bad(t *testing.T, r *registry.Registry, endpoints ...string) {
	t.Helper()
	for _, endpoint := range endpoints {
		if e := r.Probe(endpoint, false, 0); e != api.OK {
			t.Fatalf("a bad probe of %q: error %d", endpoint, int(e))
		}
	}
}

// text: a view as the chapter writes it, say "a: e2; b: e1, e2".
func text(l []api.Healthy) string {
	var services []string
	for _, h := range l {
		services = append(services, strings.TrimSpace(h.Service+": "+strings.Join(h.Endpoints, ", ")))
	}
	return strings.Join(services, "; ")
}

func want(t *testing.T, r *registry.Registry, view string, epoch int) {
	t.Helper()
	if got := text(r.View()); got != view || r.Epoch() != epoch {
		t.Fatalf("%q, epoch %d, want %q, %d", got, r.Epoch(), view, epoch)
	}
}

func wantEndpoints(t *testing.T, r *registry.Registry, l ...string) {
	t.Helper()
	if got := r.Endpoints(); !slices.Equal(got, l) {
		t.Fatalf("endpoints %q, want %q", got, l)
	}
}

func wantState(t *testing.T, r *registry.Registry, endpoint string, healthy bool, took float64) {
	t.Helper()
	if r.Healthy(endpoint) != healthy || math.Float64bits(r.Took(endpoint)) != math.Float64bits(took) {
		t.Fatalf("%q: %v, %g, want %v, %g", endpoint, r.Healthy(endpoint), r.Took(endpoint), healthy, took)
	}
}

// P18.1: thresholds that may be, and a registry without services.
func TestNew(t *testing.T) {
	for _, rise := range []int{1, 2, 50, 99, health.MaxRow} {
		for _, fall := range []int{1, 2, 50, 99, health.MaxRow} {
			r := begin(t, rise, fall)
			want(t, r, "", 0)
			wantEndpoints(t, r)
			wantState(t, r, "", false, 0)
		}
	}
}

// P18.1: the error of layer 17's New, with rise, with fall, and with both.
func TestNewRefuses(t *testing.T) {
	for _, x := range []int{0, -1, -100, 101, 1 << 32, 1<<32 + 1, math.MinInt, math.MaxInt} {
		for _, c := range [][2]int{{x, 1}, {1, x}, {x, 100}, {100, x}, {x, x}} {
			if r, e := registry.New(c[0], c[1]); r != nil || e != api.ErrArg {
				t.Errorf("New(%d, %d): %v, error %d", c[0], c[1], r, int(e))
			}
		}
	}
}

// P18.1, P18.3: each endpoint has the registry's rise and fall, not the one in place of the other.
func TestThresholds(t *testing.T) {
	for _, c := range [][2]int{{1, 1}, {1, 100}, {100, 1}, {2, 7}, {7, 2}} {
		rise, fall := c[0], c[1]
		r := begin(t, rise, fall)
		set(t, r, service("a", "e1", "e2"))
		for i := range fall {
			wantState(t, r, "e2", true, 0)
			want(t, r, "a: e1, e2", 1)
			bad(t, r, "e2")
			if e := r.Probe("e9", i%2 == 0, 1); e != api.ErrArg {
				t.Fatalf("error %d", int(e))
			}
		}
		for range rise {
			wantState(t, r, "e2", false, 0)
			want(t, r, "a: e1", 2)
			good(t, r, "e2", -1)
		}
		wantState(t, r, "e2", true, 0)
		want(t, r, "a: e1, e2", 3)
	}
}

// P18.2, P18.3, P18.4: the chapter's examples.
func TestExamples(t *testing.T) {
	r := begin(t, 1, 2)
	set(t, r, service("b", "e1", "e2"), service("a", "e2"))
	want(t, r, "a: e2; b: e1, e2", 1)
	bad(t, r, "e2")
	want(t, r, "a: e2; b: e1, e2", 1)
	bad(t, r, "e2")
	want(t, r, "a:; b: e1", 2)
	if e := r.Probe("e9", true, 0); e != api.ErrArg {
		t.Fatalf("error %d", int(e))
	}
	set(t, r, service("b", "e2"))
	want(t, r, "b:", 3)
	good(t, r, "e2", 1)
	want(t, r, "b: e2", 4)
}

// P18.2: services stand by name, byte by byte, and their endpoints in their order.
func TestOrder(t *testing.T) {
	r := begin(t, 1, 1)
	set(t, r, service("b", "2", "1", "3"), service("", "z"), service("\xff", "y"), service("a-"), service("B", "x"), service("a", "", "b", "B"), service("ab"), service("é", "w"))
	var names []string
	for _, h := range r.View() {
		names = append(names, h.Service)
	}
	if l := []string{"", "B", "a", "a-", "ab", "b", "é", "\xff"}; !slices.Equal(names, l) {
		t.Errorf("services %q, want %q", names, l)
	}
	want(t, r, ": z; B: x; a: , b, B; a-:; ab:; b: 2, 1, 3; é: w; \xff: y", 1)
	wantEndpoints(t, r, "", "1", "2", "3", "B", "b", "w", "x", "y", "z")
	wantState(t, r, "", true, 0)
	bad(t, r, "")
	want(t, r, ": z; B: x; a: b, B; a-:; ab:; b: 2, 1, 3; é: w; \xff: y", 2)
}

// P18.2: others than services are passed over, whatever they hold, and however alike they are.
func TestOtherKinds(t *testing.T) {
	r := begin(t, 1, 1)
	other := func(kind int) api.Resource { return resource(kind, "a", "e1", "e9") }
	l := list(other(api.Split), other(api.Route), service("a", "e1"), other(api.Policy), other(0), other(5), other(-1), other(api.Split), other(math.MaxInt), other(math.MinInt))
	set(t, r, l...)
	want(t, r, "a: e1", 1)
	wantEndpoints(t, r, "e1")
	set(t, r, other(api.Split), other(api.Policy), other(0))
	want(t, r, "", 2)
	wantEndpoints(t, r)
}

// P18.2: a resource of Kind Service is a service, whatever else it says.
func TestWhatElseAServiceSays(t *testing.T) {
	r := begin(t, 1, 1)
	s := service("a", "e1")
	s.Delete, s.Host, s.Route = true, "h", "r"
	s.Targets, s.Rules = []api.Target{{Service: "b"}}, []api.Rule{{Path: "/"}}
	set(t, r, s)
	want(t, r, "a: e1", 1)
	if e := r.Set(list(s, service("a"))); e != api.ErrArg {
		t.Fatalf("error %d", int(e))
	}
	want(t, r, "a: e1", 1)
}

// P18.2: of an endpoint that stands twice in a service the first place counts.
func TestTwiceInAService(t *testing.T) {
	r := begin(t, 1, 1)
	set(t, r, service("a", "e2", "e1", "e2", "e3", "e1", "e2"), service("b", "e1", "e1", "e1"), service("c", "", ""))
	want(t, r, "a: e2, e1, e3; b: e1; c:", 1)
	if l := r.View()[2].Endpoints; len(l) != 1 {
		t.Errorf("%q", l)
	}
	bad(t, r, "e2")
	want(t, r, "a: e1, e3; b: e1; c:", 2)
	good(t, r, "e2", 0)
	want(t, r, "a: e2, e1, e3; b: e1; c:", 3)
	set(t, r, service("a", "e2", "e1", "e3"), service("b", "e1"), service("c", ""))
	want(t, r, "a: e2, e1, e3; b: e1; c:", 3)
}

// P18.2: what is refused changes nothing, wherever the two of one name stand.
func TestSetRefuses(t *testing.T) {
	r := begin(t, 1, 2)
	set(t, r, service("a", "e1", "e2"))
	good(t, r, "e1", 8)
	bad(t, r, "e2")
	for _, l := range [][]api.Resource{
		list(service("b"), service("b")),
		list(service(""), service("")),
		list(service("a", "e1"), service("a", "e1")),
		list(service("b", "e3"), service("a"), service("c"), service("b", "e4")),
		list(service("c"), service("b"), service("a"), resource(api.Split, "x"), service("a")),
		list(resource(api.Split, "b"), service("b"), resource(api.Route, "b"), service("b")),
	} {
		if e := r.Set(l); e != api.ErrArg {
			t.Fatalf("Set(%v): error %d", l, int(e))
		}
		want(t, r, "a: e1, e2", 1)
		wantEndpoints(t, r, "e1", "e2")
		wantState(t, r, "e1", true, 8)
	}
	bad(t, r, "e2")
	want(t, r, "a: e1", 2)
}

// P18.2: an endpoint that some service had keeps its state, in whichever service it is now.
func TestStatesGoOn(t *testing.T) {
	r := begin(t, 2, 2)
	set(t, r, service("a", "e1", "e2"), service("b", "e3"))
	good(t, r, "e1", 8)
	bad(t, r, "e2", "e2", "e3")
	good(t, r, "e2", 4)
	want(t, r, "a: e1; b: e3", 2)
	set(t, r, service("c", "e2", "e3", "e1"))
	want(t, r, "c: e3, e1", 3)
	wantState(t, r, "e1", true, 8)
	wantState(t, r, "e2", false, 4)
	bad(t, r, "e3")
	want(t, r, "c: e1", 4)
	good(t, r, "e2", 4)
	want(t, r, "c: e2, e1", 5)
	bad(t, r, "e1")
	set(t, r, service("c", "e2", "e3"), service("d", "e1"))
	bad(t, r, "e1")
	want(t, r, "c: e2; d:", 7)
}

// P18.2: an endpoint that none has any more is forgotten, and is a new one later.
func TestForgotten(t *testing.T) {
	r := begin(t, 2, 2)
	set(t, r, service("a", "e1", "e2"), service("b", "e2"))
	good(t, r, "e1", 8)
	bad(t, r, "e1", "e1", "e2", "e2")
	want(t, r, "a:; b:", 3)
	set(t, r, service("b", "e2"))
	want(t, r, "b:", 4)
	wantEndpoints(t, r, "e2")
	wantState(t, r, "e1", false, 0)
	if e := r.Probe("e1", true, 1); e != api.ErrArg {
		t.Fatalf("error %d", int(e))
	}
	set(t, r, service("a", "e1"), service("b", "e2"))
	want(t, r, "a: e1; b:", 5)
	wantState(t, r, "e1", true, 0)
	bad(t, r, "e1")
	set(t, r)
	want(t, r, "", 6)
	wantEndpoints(t, r)
	set(t, r, service("a", "e1"))
	bad(t, r, "e1")
	want(t, r, "a: e1", 7)
}

// P18.3: of what is no endpoint, a service's name, a part of an endpoint's, and letters of another case among them.
func TestProbeRefuses(t *testing.T) {
	r := begin(t, 1, 1)
	if e := r.Probe("", false, 0); e != api.ErrArg {
		t.Fatalf("error %d", int(e))
	}
	set(t, r, service("a", "e1"), resource(api.Split, "s", "e3"))
	for _, endpoint := range []string{"", "a", "e", "e11", "E1", "e3", "s", "e1 "} {
		for _, ok := range []bool{false, true} {
			if e := r.Probe(endpoint, ok, 4); e != api.ErrArg {
				t.Errorf("Probe(%q): error %d", endpoint, int(e))
			}
		}
		wantState(t, r, endpoint, false, 0)
	}
	want(t, r, "a: e1", 1)
	wantState(t, r, "e1", true, 0)
}

// P18.3: times are smoothed as layer 17 says, and what does not count there does not here.
func TestTook(t *testing.T) {
	r := begin(t, 1, 1)
	set(t, r, service("a", "e1"), service("b", "e2", "e1"))
	good(t, r, "e1", math.NaN(), math.Inf(1), -1)
	wantState(t, r, "e1", true, 0)
	good(t, r, "e1", 8, 4)
	wantState(t, r, "e1", true, 7)
	if e := r.Probe("e1", false, 100); e != api.OK {
		t.Fatalf("error %d", int(e))
	}
	wantState(t, r, "e1", false, 7)
	good(t, r, "e2", math.Copysign(0, -1))
	wantState(t, r, "e2", true, 0)
	want(t, r, "a:; b: e2", 2)
}

// The chapter's words: the epoch rises behind a call behind which the view is another one, and behind no other.
func TestEpoch(t *testing.T) {
	r := begin(t, 1, 1)
	set(t, r)
	want(t, r, "", 0)
	set(t, r, resource(api.Split, "s"))
	want(t, r, "", 0)
	set(t, r, service("a"))
	want(t, r, "a:", 1)
	set(t, r, service("a"), service("b"))
	want(t, r, "a:; b:", 2)
	set(t, r, service("b", "e1", "e2"), service("a", "e1"))
	want(t, r, "a: e1; b: e1, e2", 3)
	set(t, r, service("a", "e1"), service("b", "e1", "e2"))
	want(t, r, "a: e1; b: e1, e2", 3)
	set(t, r, service("a", "e1"), service("b", "e2", "e1"))
	want(t, r, "a: e1; b: e2, e1", 4)
	good(t, r, "e1", 1, 2, 3)
	want(t, r, "a: e1; b: e2, e1", 4)
	bad(t, r, "e1")
	want(t, r, "a:; b: e2", 5)
	bad(t, r, "e1")
	want(t, r, "a:; b: e2", 5)
	set(t, r, service("a", "e1"), service("b", "e1", "e2"))
	want(t, r, "a:; b: e2", 5)
	set(t, r, service("a"), service("b", "e2"))
	want(t, r, "a:; b: e2", 5)
	set(t, r, service("a", "e1"), service("b", "e2"))
	want(t, r, "a: e1; b: e2", 6)
	set(t, r, service("a", "e1"), service("c", "e2"))
	want(t, r, "a: e1; c: e2", 7)
	set(t, r, service("a", "e2"), service("c", "e1"))
	want(t, r, "a: e2; c: e1", 8)
	set(t, r)
	want(t, r, "", 9)
}

// The chapter's words: a view that is again as an earlier one has an epoch of its own.
func TestEpochOfAnEarlierView(t *testing.T) {
	r := begin(t, 1, 1)
	set(t, r, service("a", "e1"))
	for epoch := 1; epoch < 50; epoch += 2 {
		want(t, r, "a: e1", epoch)
		bad(t, r, "e1")
		want(t, r, "a:", epoch+1)
		good(t, r, "e1", 0)
	}
}

// P18.1 to P18.4: a nil registry.
func TestNil(t *testing.T) {
	var r *registry.Registry
	for _, l := range [][]api.Resource{nil, list(service("a", "e1")), list(service("a"), service("a"))} {
		if e := r.Set(l); e != api.ErrNil {
			t.Errorf("Set: error %d", int(e))
		}
	}
	for _, ok := range []bool{false, true} {
		if e := r.Probe("e1", ok, 1); e != api.ErrNil {
			t.Errorf("Probe: error %d", int(e))
		}
	}
	want(t, r, "", 0)
	wantEndpoints(t, r)
	wantState(t, r, "e1", false, 0)
	if len(r.View()) != 0 || r.Copy() != nil {
		t.Errorf("%v, %v", r.View(), r.Copy())
	}
}

// P0.1: a registry that no New has made takes whatever is asked of it; its endpoints stay up, as layer 17's zero State does.
func TestZeroRegistry(t *testing.T) {
	var zero registry.Registry
	for _, r := range []*registry.Registry{&zero, zero.Copy()} {
		want(t, r, "", 0)
		wantEndpoints(t, r)
		wantState(t, r, "e1", false, 0)
		if e := r.Probe("e1", false, 0); e != api.ErrArg {
			t.Errorf("error %d", int(e))
		}
		set(t, r, service("a", "e1", "e1"))
		for range 200 {
			bad(t, r, "e1")
		}
		good(t, r, "e1", 8)
		want(t, r.Copy(), "a: e1", 1)
		wantState(t, r, "e1", true, 8)
	}
}

// P0.1: more services and endpoints than a configuration has.
func TestMany(t *testing.T) {
	const services, each = 300, 100
	r := begin(t, 1, 1)
	var l []api.Resource
	name := func(i int) string { return string([]byte{byte(i / 256), byte(i)}) }
	for i := services - 1; i >= 0; i-- {
		s := service(name(i))
		for j := range each {
			s.Endpoints = append(s.Endpoints, name(i+j))
		}
		l = append(l, s)
	}
	set(t, r, l...)
	if n := len(r.Endpoints()); n != services+each-1 {
		t.Fatalf("%d endpoints", n)
	}
	bad(t, r, name(150))
	for i, h := range r.View() {
		size := each
		if i <= 150 && 150 < i+each {
			size--
		}
		if h.Service != name(i) || len(h.Endpoints) != size {
			t.Fatalf("%d: %q with %d", i, h.Service, len(h.Endpoints))
		}
	}
	if r.Epoch() != 2 {
		t.Errorf("epoch %d", r.Epoch())
	}
}
