package registry_test

import (
	"math/rand"
	"slices"
	"strings"
	"testing"
	"unsafe"

	"turnpike/api"
	"turnpike/registry"
	"turnpike/spare"
)

// given is what a caller hands in, in memory that the test may look at and change.
type given struct {
	texts [][]byte
	was   []string
	over  []func()      // each changes a list that was handed in
	kept  []func() bool // each tells whether a list, and the room behind it, is still as it was
}

func (g *given) text(s string) string {
	b := []byte(s)
	g.texts, g.was = append(g.texts, b), append(g.was, s)
	return unsafe.String(unsafe.SliceData(b), len(b))
}

// hand: a list of the same elements, each in memory of its own, with spare room behind it, x in each place.
func hand[T any](g *given, l []T, x T, own func(T) T, isSame func(a, b T) bool) []T {
	var elements []T
	for _, y := range l {
		elements = append(elements, own(y))
	}
	list, whole := spare.List(elements, x)
	was := slices.Clone(whole)
	g.kept = append(g.kept, func() bool { return slices.EqualFunc(whole, was, isSame) })
	g.over = append(g.over, func() { spare.Fill(list, x) })
	return list
}

func is[T comparable](a, b T) bool { return a == b }

func (g *given) resource(r api.Resource) api.Resource {
	r.Name = g.text(r.Name)
	r.Endpoints = hand(g, r.Endpoints, "spare", g.text, is)
	return r
}

// isResource: the endpoints have to be the very same list.
func isResource(a, b api.Resource) bool {
	return a.Kind == b.Kind && a.Name == b.Name && len(a.Endpoints) == len(b.Endpoints) && unsafe.SliceData(a.Endpoints) == unsafe.SliceData(b.Endpoints)
}

func (g *given) resources(l []api.Resource) []api.Resource {
	return hand(g, l, service("spare", "spare"), g.resource, isResource)
}

func (g *given) call(c call) call {
	return call{set: g.resources(c.set), isProbe: c.isProbe, endpoint: g.text(c.endpoint), ok: c.ok, took: c.took}
}

func (g *given) wantUntouched(t *testing.T) {
	t.Helper()
	for i, b := range g.texts {
		if string(b) != g.was[i] {
			t.Fatal("a text that was handed in was changed")
		}
	}
	for _, isKept := range g.kept {
		if !isKept() {
			t.Fatal("a list that was handed in was changed")
		}
	}
}

func (g *given) overwrite() {
	for _, b := range g.texts {
		spare.Fill(b, '!')
	}
	for _, change := range g.over {
		change()
	}
}

// P18.6: what is handed in is as it was, and the registry has nothing to do with it any more.
func TestNothingIsKept(t *testing.T) {
	r := rand.New(rand.NewSource(4))
	for range 500 {
		rise, fall := 1+r.Intn(3), 1+r.Intn(3)
		got, m := begin(t, rise, fall), &model{rise: rise, fall: fall}
		for round := range 20 {
			var g given
			c := someCall(r, round)
			in := g.call(c)
			in.of(got)
			asked := g.text(one(r, someEndpoints()))
			got.Healthy(asked)
			got.Took(asked)
			g.wantUntouched(t)
			g.overwrite()
			m.take(c)
			wantAs(t, got, m, someEndpoints())
		}
	}
}

// ownView: a view in memory of its own, made without the package under test.
func ownView(l []api.Healthy) []api.Healthy {
	var own []api.Healthy
	for _, h := range l {
		x := api.Healthy{Service: strings.Clone(h.Service)}
		for _, endpoint := range h.Endpoints {
			x.Endpoints = append(x.Endpoints, strings.Clone(endpoint))
		}
		own = append(own, x)
	}
	return own
}

func isView(a, b []api.Healthy) bool {
	return slices.EqualFunc(a, b, func(a, b api.Healthy) bool {
		return a.Service == b.Service && slices.Equal(a.Endpoints, b.Endpoints)
	})
}

// P18.6: no list of a view, nor the room behind it, shares memory with another one of it.
func TestListsAreApart(t *testing.T) {
	r := rand.New(rand.NewSource(5))
	lists := 0
	for range 1000 {
		l := someRegistry(r).View()
		was := ownView(l)
		for i := range l {
			spare.Fill(l[i].Endpoints, "!")
			l[i].Endpoints = was[i].Endpoints
			if !isView(l, was) {
				t.Fatalf("lists of %v share memory", was)
			}
			lists++
		}
	}
	if lists < 1000 {
		t.Errorf("%d lists", lists)
	}
}

// spoil writes over all that a registry answers.
func spoil(g *registry.Registry) {
	for _, h := range g.View() {
		spare.Fill(h.Endpoints, "!")
	}
	spare.Fill(g.View(), api.Healthy{Service: "!", Endpoints: []string{"!"}})
	spare.Fill(g.Endpoints(), "!")
}

// P18.6: an answer that is written over is neither the registry's, nor a copy's, nor another answer.
func TestAnswersAreNew(t *testing.T) {
	r := rand.New(rand.NewSource(6))
	for range 1000 {
		g := someRegistry(r)
		c := g.Copy()
		was, view, endpoints := tell(g, someEndpoints()), g.View(), g.Endpoints()
		wasView, wasEndpoints := ownView(view), slices.Clone(endpoints)
		spoil(g)
		spoil(c)
		if now := tell(g, someEndpoints()); now != was {
			t.Fatalf("%s, was %s", now, was)
		}
		if now := tell(c, someEndpoints()); now != was {
			t.Fatalf("the copy: %s, was %s", now, was)
		}
		if !isView(view, wasView) || !slices.Equal(endpoints, wasEndpoints) {
			t.Fatalf("%v, %q, was %v, %q", view, endpoints, wasView, wasEndpoints)
		}
	}
}

// P18.6: an answer stays as it is, whatever the registry is told later.
func TestAnswersStay(t *testing.T) {
	r := rand.New(rand.NewSource(7))
	for range 300 {
		g := someRegistry(r)
		view, endpoints := g.View(), g.Endpoints()
		wasView, wasEndpoints := ownView(view), slices.Clone(endpoints)
		for round := range 60 {
			someCall(r, round).of(g)
		}
		if !isView(view, wasView) || !slices.Equal(endpoints, wasEndpoints) {
			t.Fatalf("%v, %q, was %v, %q", view, endpoints, wasView, wasEndpoints)
		}
	}
}

// P18.6: texts are answered in new memory too.
func TestTextsAreNew(t *testing.T) {
	g := begin(t, 1, 1)
	set(t, g, service("service", "endpoint"))
	texts := func() []string { return []string{g.View()[0].Service, g.View()[0].Endpoints[0], g.Endpoints()[0]} }
	one, two := texts(), texts()
	for i := range one {
		if one[i] != two[i] || unsafe.StringData(one[i]) == unsafe.StringData(two[i]) {
			t.Errorf("%q and %q", one[i], two[i])
		}
	}
}

// P18.4: a copy tells the same, goes the same way, and the registry goes on without it.
func TestCopy(t *testing.T) {
	r := rand.New(rand.NewSource(8))
	for range 500 {
		g := someRegistry(r)
		was := tell(g, someEndpoints())
		c := g.Copy()
		var calls []call
		for round := range 30 {
			calls = append(calls, someCall(r, round))
		}
		wantTold := func(who *registry.Registry, w string) {
			t.Helper()
			if now := tell(who, someEndpoints()); now != w {
				t.Fatalf("%s, want %s", now, w)
			}
		}
		wantTold(c, was)
		for _, x := range calls {
			x.of(c)
		}
		wantTold(g, was)
		ended := tell(c, someEndpoints())
		for _, x := range calls {
			x.of(g)
		}
		wantTold(g, ended)
		for _, x := range calls {
			x.of(g)
		}
		wantTold(c, ended)
	}
}

// P18.6: registries have nothing to do with one another.
func TestRegistriesAreApart(t *testing.T) {
	r := rand.New(rand.NewSource(9))
	var registries []*registry.Registry
	var models []*model
	for range 5 {
		rise, fall := 1+r.Intn(3), 1+r.Intn(3)
		registries, models = append(registries, begin(t, rise, fall)), append(models, &model{rise: rise, fall: fall})
	}
	for round := range 600 {
		i, c := r.Intn(len(registries)), someCall(r, round)
		c.of(registries[i])
		models[i].take(c)
	}
	for i, g := range registries {
		wantAs(t, g, models[i], someEndpoints())
	}
}
