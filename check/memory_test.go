package check_test

import (
	"math/rand"
	"slices"
	"testing"
	"unsafe"

	"turnpike/api"
	"turnpike/check"
	"turnpike/spare"
)

// given is what a caller hands in, in memory that the test may look at and change.
type given struct {
	texts [][]byte
	over  []func()      // each changes a list that was handed in
	kept  []func() bool // each tells whether a list, and the room behind it, is still as it was
}

func (g *given) text(s string) string {
	b := []byte(s)
	g.texts = append(g.texts, b)
	return unsafe.String(unsafe.SliceData(b), len(b))
}

// hand: a list of the same elements with spare room behind it, x in each place.
func hand[T any](g *given, l []T, x T, isSame func(a, b T) bool) []T {
	list, whole := spare.List(l, x)
	was := slices.Clone(whole)
	g.kept = append(g.kept, func() bool { return slices.EqualFunc(whole, was, isSame) })
	g.over = append(g.over, func() { spare.Fill(list, x) })
	return list
}

func is[T comparable](a, b T) bool { return a == b }

// isTarget: weights that are no numbers are alike.
func isTarget(a, b api.Target) bool {
	return modelSame(split("", a), split("", b))
}

func (g *given) resource(r api.Resource) api.Resource {
	var names []string
	for _, name := range r.Endpoints {
		names = append(names, g.text(name))
	}
	targets, rules := slices.Clone(r.Targets), slices.Clone(r.Rules)
	for i, x := range targets {
		targets[i].Service, targets[i].Split = g.text(x.Service), g.text(x.Split)
	}
	for i, x := range rules {
		rules[i].Path, rules[i].Method, rules[i].Split = g.text(x.Path), g.text(x.Method), g.text(x.Split)
	}
	r.Name, r.Host, r.Route = g.text(r.Name), g.text(r.Host), g.text(r.Route)
	r.Endpoints, r.Targets, r.Rules = hand(g, names, "spare", is), hand(g, targets, api.Target{Split: "spare"}, isTarget), hand(g, rules, api.Rule{Path: "spare"}, is)
	return r
}

func (g *given) list(l []api.Resource) []api.Resource {
	var own []api.Resource
	for _, r := range l {
		own = append(own, g.resource(r))
	}
	return hand(g, own, service("spare", "e"), modelSame)
}

// own: resources in memory of their own.
func own(l []api.Resource) []api.Resource {
	var g given
	return slices.Clip(g.list(l))
}

func (g *given) wantUntouched(t *testing.T) {
	t.Helper()
	for _, isKept := range g.kept {
		if !isKept() {
			t.Fatal("something that was handed in was changed")
		}
	}
}

func (g *given) overwrite() {
	for _, b := range g.texts {
		spare.Fill(b, '!')
	}
	for _, change := range g.over {
		change()
	}
}

// wantApart: no list of an answer, nor the room behind it, shares memory with another one of it.
func wantApart(t *testing.T, l []api.Resource) {
	t.Helper()
	want := own(l)
	for i := range l {
		spare.Fill(l[i].Endpoints, "!")
		spare.Fill(l[i].Targets, api.Target{Service: "!"})
		spare.Fill(l[i].Rules, api.Rule{Path: "!"})
		if !isList(l[i+1:], want[i+1:]) {
			t.Fatalf("lists of %v share memory", l)
		}
		l[i].Endpoints, l[i].Targets, l[i].Rules = want[i].Endpoints, want[i].Targets, want[i].Rules
	}
	if !isList(l, want) {
		t.Fatalf("lists of %v share memory", l)
	}
	for _, r := range l[len(l):cap(l)] {
		if !modelSame(r, api.Resource{}) {
			t.Fatalf("behind the answer: %v", r)
		}
	}
}

// P14.6: what Merge and Diff are given, and what they answer.
func TestResourcesAreNew(t *testing.T) {
	r := rand.New(rand.NewSource(6))
	for range 2000 {
		var g given
		conf, docs := g.list(orderly(r, 8)), g.list(anyList(r, 3))
		merged, _, _ := check.Merge(conf, docs)
		changes, back := check.Diff(conf, docs), check.Diff(docs, conf)
		g.wantUntouched(t)
		answers := [][]api.Resource{merged, changes, back}
		var want [][]api.Resource
		for _, l := range answers {
			want = append(want, own(l))
		}
		g.overwrite()
		for i, l := range answers {
			if !isList(l, want[i]) {
				t.Fatalf("%v, was %v", l, want[i])
			}
			wantApart(t, l)
		}
	}
}

// P14.6: one list in several places of what is handed in is answered as several.
func TestSharedListsAreAnsweredApart(t *testing.T) {
	shared := api.Resource{Kind: 3, Endpoints: []string{"e"}, Targets: []api.Target{toService("a", 1)}, Rules: []api.Rule{get("/", "s")}}
	var l []api.Resource
	for _, name := range []string{"p", "q", "r"} {
		shared.Name = name
		l = append(l, shared)
	}
	merged, _, _ := check.Merge(l[:1], l[1:])
	wantApart(t, merged)
	wantApart(t, check.Diff(nil, l))
	unchanged, _, _ := check.Merge(l, nil)
	wantApart(t, unchanged)
}

// P14.6: what Check, Same and Ordered are given; an earlier call counts for nothing.
func TestQuestionsChangeNothing(t *testing.T) {
	r := rand.New(rand.NewSource(7))
	for range 2000 {
		var g given
		l := fitting(r)
		if r.Intn(4) == 0 {
			l = anyList(r, 6)
		}
		conf := g.list(l)
		warnings, fault := check.Check(conf)
		isOrdered := check.Ordered(conf)
		for i := range min(len(conf), 3) {
			check.Same(conf[i], conf[0])
		}
		g.wantUntouched(t)
		was := slices.Clone(warnings)
		g.overwrite()
		if !slices.Equal(warnings, was) {
			t.Fatalf("%v, was %v", warnings, was)
		}
		spare.Fill(warnings, check.Warning{Doc: -1})
		again, faultAgain := check.Check(l)
		if !slices.Equal(again, was) || faultAgain != fault || check.Ordered(l) != isOrdered {
			t.Fatalf("%v, %v, was %v, %v", again, faultAgain, was, fault)
		}
	}
}
