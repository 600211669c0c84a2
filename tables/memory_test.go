package tables_test

import (
	"math/rand"
	"slices"
	"testing"
	"unsafe"

	"turnpike/api"
	"turnpike/spare"
	"turnpike/tables"
)

// given is what a caller hands in, in memory that the test may look at and change.
type given struct {
	texts [][]byte
	over  []func()      // each changes a list that was handed in
	kept  []func() bool // each tells whether a list, and the room behind it, is still as it was
}

func (g *given) text(s string) string {
	b := []byte(s)
	g.texts = append(g.texts, b)
	return unsafe.String(unsafe.SliceData(b), len(b))
}

// hand: a list of the same elements, each in memory of its own, with spare room behind it, x in each place.
func hand[T any](g *given, l []T, x T, own func(T) T, isSame func(a, b T) bool) []T {
	var elements []T
	for _, y := range l {
		elements = append(elements, own(y))
	}
	list, whole := spare.List(elements, x)
	was := slices.Clone(whole)
	g.kept = append(g.kept, func() bool { return slices.EqualFunc(whole, was, isSame) })
	g.over = append(g.over, func() { spare.Fill(list, x) })
	return list
}

func is[T comparable](a, b T) bool { return a == b }

func (g *given) target(x api.Target) api.Target {
	return api.Target{Service: g.text(x.Service), Split: g.text(x.Split), Weight: x.Weight}
}

func (g *given) rule(x api.Rule) api.Rule {
	return api.Rule{Path: g.text(x.Path), Method: g.text(x.Method), Split: g.text(x.Split), Allow: x.Allow}
}

func (g *given) resource(r api.Resource) api.Resource {
	r.Name, r.Host, r.Route = g.text(r.Name), g.text(r.Host), g.text(r.Route)
	r.Targets = hand(g, r.Targets, toService("spare", 1), g.target, is)
	r.Rules = hand(g, r.Rules, get("spare", "spare"), g.rule, is)
	return r
}

func isResource(a, b api.Resource) bool {
	return a.Kind == b.Kind && a.Name == b.Name && a.Host == b.Host && a.Route == b.Route && slices.Equal(a.Targets, b.Targets) && slices.Equal(a.Rules, b.Rules)
}

func (g *given) conf(l []api.Resource) []api.Resource {
	return hand(g, l, service("spare"), g.resource, isResource)
}

func (g *given) share(s api.Share) api.Share { return share(g.text(s.Service), s.Upto) }

func (g *given) shares(l []api.Share) []api.Share {
	return hand(g, l, share("spare", 7), g.share, is)
}

func (g *given) entry(e api.Entry) api.Entry {
	return api.Entry{Path: g.text(e.Path), Method: g.text(e.Method), Shares: g.shares(e.Shares)}
}

func isEntry(a, b api.Entry) bool {
	return a.Path == b.Path && a.Method == b.Method && slices.Equal(a.Shares, b.Shares)
}

func (g *given) permit(p api.Permit) api.Permit {
	return api.Permit{Path: g.text(p.Path), Method: g.text(p.Method), Allow: p.Allow}
}

func (g *given) host(h api.Host) api.Host {
	return api.Host{
		Host: g.text(h.Host), Route: g.text(h.Route),
		Entries: hand(g, h.Entries, api.Entry{Path: "spare"}, g.entry, isEntry),
		Permits: hand(g, h.Permits, api.Permit{Path: "spare"}, g.permit, is),
	}
}

func isHost(a, b api.Host) bool {
	return isTables(api.Tables{Hosts: []api.Host{a}}, api.Tables{Hosts: []api.Host{b}})
}

func (g *given) tables(x api.Tables) api.Tables {
	x.Hosts = hand(g, x.Hosts, api.Host{Host: "spare"}, g.host, isHost)
	x.Services = hand(g, x.Services, "spare", g.text, is)
	return x
}

func (g *given) wantUntouched(t *testing.T) {
	t.Helper()
	for _, isKept := range g.kept {
		if !isKept() {
			t.Fatal("something that was handed in was changed")
		}
	}
}

func (g *given) overwrite() {
	for _, b := range g.texts {
		spare.Fill(b, '!')
	}
	for _, change := range g.over {
		change()
	}
}

// own: tables in memory of their own, made without the package under test.
func own(x api.Tables) api.Tables {
	var g given
	return g.tables(x)
}

// wantApart: no list of the tables, nor the room behind it, shares memory with another one of them.
func wantApart(t *testing.T, x api.Tables) {
	t.Helper()
	was := own(x)
	wantStill := func() {
		t.Helper()
		if !isTables(x, was) {
			t.Fatalf("lists of %v share memory", was)
		}
	}
	for i := range x.Hosts {
		h, old := &x.Hosts[i], was.Hosts[i]
		for j := range h.Entries {
			spare.Fill(h.Entries[j].Shares, share("!", 7))
			h.Entries[j].Shares = old.Entries[j].Shares
			wantStill()
		}
		spare.Fill(h.Entries, api.Entry{Path: "!"})
		h.Entries = old.Entries
		wantStill()
		spare.Fill(h.Permits, api.Permit{Path: "!"})
		h.Permits = old.Permits
		wantStill()
	}
	spare.Fill(x.Services, "!")
	x.Services = was.Services
	wantStill()
}

// P15.9: what Compile and Shares are given, and what they answer.
func TestTablesAreNew(t *testing.T) {
	r := rand.New(rand.NewSource(8))
	for range 3000 {
		var g given
		conf := standing(r)
		in := g.conf(conf)
		got, _ := tables.Compile(5, in)
		shares, _ := tables.Shares(in, g.text("a"))
		g.wantUntouched(t)
		want, wantShares := own(got), slices.Clone(shares)
		for i, s := range wantShares {
			wantShares[i].Service = string([]byte(s.Service))
		}
		g.overwrite()
		if !isTables(got, want) || !isShares(shares, wantShares) {
			t.Fatalf("%v, %v, was %v, %v", got, shares, want, wantShares)
		}
		wantApart(t, got)
		spare.Fill(shares, share("!", 7))
		again, _ := tables.Compile(5, conf)
		sharesAgain, _ := tables.Shares(conf, "a")
		if !isTables(again, want) || !isShares(sharesAgain, wantShares) {
			t.Fatalf("again: %v, %v, was %v, %v", again, sharesAgain, want, wantShares)
		}
	}
}

// P15.9: rules that name one split have steps of their own each, and so have policies and routes whose lists are one.
func TestSharedListsAreAnsweredApart(t *testing.T) {
	rules := []api.Rule{get("/a", "s"), get("/b", "s"), get("/c", "t"), get("/d", "u")}
	conf := list(
		service("a"), service("b"),
		split("s", toService("a", 50), toService("b", 50)), split("t", toSplit("s", 100)), split("u", toSplit("s", 100)),
		route("q", "q", rules...), route("r", "r", rules...),
		policy("o", "q", rules...), policy("p", "r", rules...),
	)
	conf[6].Rules, conf[7].Rules, conf[8].Rules = conf[5].Rules, conf[5].Rules, conf[5].Rules
	got, err := tables.Compile(1, conf)
	if err != api.OK || len(got.Hosts) != 2 || len(got.Hosts[1].Entries) != 4 || len(got.Hosts[1].Permits) != 4 {
		t.Fatal(got, err)
	}
	wantApart(t, got)
	// One list in several places of tables is copied as several.
	got, _ = tables.Compile(1, conf)
	got.Hosts[1] = got.Hosts[0]
	got.Hosts[0].Entries[1].Shares = got.Hosts[0].Entries[0].Shares
	wantApart(t, tables.Copy(got))
}

// P15.9: what Copy, Same, Find and Steps are given, and what they answer.
func TestCopiesAreNew(t *testing.T) {
	r := rand.New(rand.NewSource(9))
	for i := range 3000 {
		var g given
		x, _ := tables.Compile(1, standing(r))
		if i == 0 {
			x = full()
		}
		in, other := g.tables(x), g.tables(x)
		got := tables.Copy(in)
		tables.Same(in, other)
		tables.Find(in, g.text("b.a"))
		l := g.shares([]api.Share{share("a", 0), share("b", 0.25), share("b", 0.5), share("c", 0.25)})
		steps := tables.Steps(l)
		g.wantUntouched(t)
		g.overwrite()
		if !isTables(got, x) || !isShares(steps, []api.Share{share("b", 0.25), share("b", 0.75), share("c", 1)}) {
			t.Fatalf("%v, %v, was %v", got, steps, x)
		}
		wantApart(t, got)
	}
}
