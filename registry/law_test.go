package registry_test

import (
	"fmt"
	"math/rand"
	"testing"

	"turnpike/registry"
)

// quoted: a view's text, in which an endpoint without letters is to be seen.
func quoted(g *registry.Registry) string { return fmt.Sprintf("%q", g.View()) }

// P18.5: views of one epoch are the same; the epoch rises by 1 with another view, and by 0 with the same one, whatever is called.
func TestEpochs(t *testing.T) {
	r := rand.New(rand.NewSource(2))
	rises, stays := 0, 0
	for range 1000 {
		g := begin(t, 1+r.Intn(3), 1+r.Intn(3))
		views := map[int]string{0: quoted(g)}
		for round := range 60 {
			before := g.Epoch()
			someCall(r, round).of(g)
			view, now := quoted(g), g.Epoch()
			if rise := now - before; rise < 0 || rise > 1 || (rise == 1) != (view != views[before]) {
				t.Fatalf("epoch %d of %s behind %d of %s", now, view, before, views[before])
			}
			if now > before {
				views[now] = view
				rises++
			} else {
				stays++
			}
		}
	}
	if rises < 5000 || stays < 5000 {
		t.Errorf("%d rises, %d not", rises, stays)
	}
}

// P18.5: one probe that turns an endpoint of many services, and one Set that changes all of them, are one epoch each.
func TestOneEpochACall(t *testing.T) {
	g := begin(t, 1, 1)
	set(t, g, service("a", "e1"), service("b", "e2", "e1"), service("c", "e1", "e2"))
	want(t, g, "a: e1; b: e2, e1; c: e1, e2", 1)
	bad(t, g, "e1")
	want(t, g, "a:; b: e2; c: e2", 2)
	set(t, g, service("d", "e3"), service("b", "e3"), service("a", "e2"))
	want(t, g, "a: e2; b: e3; d: e3", 3)
}

// P18.5: asking changes nothing, and what is refused changes nothing either.
func TestAskingChangesNothing(t *testing.T) {
	r := rand.New(rand.NewSource(3))
	for range 200 {
		g := someRegistry(r)
		was := tell(g, someEndpoints())
		g.Copy()
		g.Set(list(service("x", "e1"), service("y"), service("x")))
		g.Probe("none", true, 1)
		if now := tell(g, someEndpoints()); now != was {
			t.Fatalf("%s, was %s", now, was)
		}
	}
}

// someRegistry: one behind some calls, the first of them a Set.
func someRegistry(r *rand.Rand) *registry.Registry {
	g, _ := registry.New(1+r.Intn(3), 1+r.Intn(3))
	g.Set(someResources(r))
	for round := range r.Intn(60) {
		someCall(r, round).of(g)
	}
	return g
}
