package decide_test

import (
	"math"
	"math/rand"
	"slices"
	"testing"
	"unsafe"

	"turnpike/api"
	"turnpike/decide"
	"turnpike/spare"
)

// given is what a caller hands in, in memory that the test may look at and change.
type given struct {
	texts [][]byte
	was   []string
	over  []func()      // each changes a list that was handed in
	kept  []func() bool // each tells whether a list, and the room behind it, is still as it was
}

func (g *given) text(s string) string {
	b := []byte(s)
	g.texts, g.was = append(g.texts, b), append(g.was, s)
	return unsafe.String(unsafe.SliceData(b), len(b))
}

// hand: a list of the same elements, each in memory of its own, with spare room behind it, x in each place.
func hand[T any](g *given, l []T, x T, own func(T) T, isSame func(a, b T) bool) []T {
	var elements []T
	for _, y := range l {
		elements = append(elements, own(y))
	}
	list, whole := spare.List(elements, x)
	was := slices.Clone(whole)
	g.kept = append(g.kept, func() bool { return slices.EqualFunc(whole, was, isSame) })
	g.over = append(g.over, func() { spare.Fill(list, x) })
	return list
}

func is[T comparable](a, b T) bool { return a == b }

// isMemory: whether two lists are one.
func isMemory[T any](a, b []T) bool {
	return len(a) == len(b) && unsafe.SliceData(a) == unsafe.SliceData(b)
}

func (g *given) share(s api.Share) api.Share { return share(g.text(s.Service), s.Upto) }

func isShare(a, b api.Share) bool {
	return a.Service == b.Service && math.Float64bits(a.Upto) == math.Float64bits(b.Upto)
}

func (g *given) entry(e api.Entry) api.Entry {
	return api.Entry{Path: g.text(e.Path), Method: g.text(e.Method), Shares: hand(g, e.Shares, share("spare", 7), g.share, isShare)}
}

func isEntry(a, b api.Entry) bool {
	return a.Path == b.Path && a.Method == b.Method && isMemory(a.Shares, b.Shares)
}

func (g *given) permit(p api.Permit) api.Permit {
	return api.Permit{Path: g.text(p.Path), Method: g.text(p.Method), Allow: p.Allow}
}

func (g *given) host(h api.Host) api.Host {
	return api.Host{
		Host: g.text(h.Host), Route: g.text(h.Route),
		Entries: hand(g, h.Entries, entry("*", "*", share("spare", 7)), g.entry, isEntry),
		Permits: hand(g, h.Permits, api.Permit{Path: "*", Method: "*"}, g.permit, is),
	}
}

func isHost(a, b api.Host) bool {
	return a.Host == b.Host && a.Route == b.Route && isMemory(a.Entries, b.Entries) && isMemory(a.Permits, b.Permits)
}

func (g *given) tables(x api.Tables) api.Tables {
	x.Hosts = hand(g, x.Hosts, api.Host{Host: "*", Route: "spare"}, g.host, isHost)
	x.Services = hand(g, x.Services, "spare", g.text, is)
	return x
}

func (g *given) healthy(h api.Healthy) api.Healthy {
	return api.Healthy{Service: g.text(h.Service), Endpoints: hand(g, h.Endpoints, "spare", g.text, is)}
}

func isHealthy(a, b api.Healthy) bool {
	return a.Service == b.Service && isMemory(a.Endpoints, b.Endpoints)
}

func (g *given) wantUntouched(t *testing.T) {
	t.Helper()
	for i, b := range g.texts {
		if string(b) != g.was[i] {
			t.Fatal("a text that was handed in was changed")
		}
	}
	for _, isKept := range g.kept {
		if !isKept() {
			t.Fatal("a list that was handed in was changed")
		}
	}
}

func (g *given) overwrite() {
	for _, b := range g.texts {
		spare.Fill(b, '!')
	}
	for _, change := range g.over {
		change()
	}
}

// P16.8: what is handed in is as it was, and what is answered has nothing to do with it any more.
func TestNothingIsKept(t *testing.T) {
	r := rand.New(rand.NewSource(6))
	forwarded := 0
	for range 20000 {
		x, h, q, u, n := someTables(r), someHealthy(r), someRequest(r), someReal(r), one(r, someNumbers())
		a, b := r.Uint64(), r.Uint64()
		x.Services = []string{"a", "b"}
		e := someEntry(r)

		var g given
		in, inHealthy := g.tables(x), hand(&g, h, healthy("spare", "spare"), g.healthy, isHealthy)
		inEntry := g.entry(e)
		method, host, path := g.text(q.method), g.text(q.host), g.text(q.path)
		got := decide.Decide(in, inHealthy, method, host, path, u, n)
		words := decide.Words(in, inHealthy, method, host, path, a, b)
		service := decide.Share(inEntry, u)
		decide.Find(in, host)
		for _, y := range in.Hosts {
			decide.Rule(y, method, path)
			decide.Allowed(y, method, path)
		}
		g.wantUntouched(t)
		g.overwrite()

		if want := modelDecide(x, h, q.method, q.host, q.path, u, n); got != want {
			t.Fatalf("%+v, was %+v", got, want)
		}
		if want := decide.Words(x, h, q.method, q.host, q.path, a, b); words != want {
			t.Fatalf("%+v, was %+v", words, want)
		}
		if want := modelShare(e, u); service != want {
			t.Fatalf("%q, was %q", service, want)
		}
		if got.Kind == api.Forward {
			forwarded++
		}
	}
	if forwarded < 500 {
		t.Errorf("%d forwarded", forwarded)
	}
}
