package push_test

import (
	"bytes"
	"math/rand"
	"reflect"
	"runtime"
	"slices"
	"strings"
	"testing"
	"unsafe"

	"turnpike/api"
	"turnpike/push"
	"turnpike/spare"
)

// given is what a caller hands in, in memory that the test may look at and change.
type given struct {
	texts [][]byte
	was   []string
	over  []func()      // each changes a list that was handed in
	kept  []func() bool // each tells whether a list, and the room behind it, is still as it was
}

func (g *given) text(s string) string {
	b := []byte(s)
	g.texts, g.was = append(g.texts, b), append(g.was, s)
	return unsafe.String(unsafe.SliceData(b), len(b))
}

// hand: a list of the same elements, each in memory of its own, with spare room behind it, x in each place.
func hand[T any](g *given, l []T, x T, own func(T) T) []T {
	var elements []T
	for _, y := range l {
		elements = append(elements, own(y))
	}
	list, whole := spare.List(elements, x)
	was := slices.Clone(whole)
	g.kept = append(g.kept, func() bool { return reflect.DeepEqual(whole, was) })
	g.over = append(g.over, func() { spare.Fill(list, x) })
	return list
}

func (g *given) target(x api.Target) api.Target {
	return api.Target{Service: g.text(x.Service), Split: g.text(x.Split), Weight: x.Weight}
}

func (g *given) rule(x api.Rule) api.Rule {
	return api.Rule{Path: g.text(x.Path), Method: g.text(x.Method), Split: g.text(x.Split), Allow: x.Allow}
}

func (g *given) resource(r api.Resource) api.Resource {
	return api.Resource{
		Kind: r.Kind, Name: g.text(r.Name), Host: g.text(r.Host), Route: g.text(r.Route), Delete: r.Delete,
		Endpoints: hand(g, r.Endpoints, "spare", g.text),
		Targets:   hand(g, r.Targets, api.Target{Service: "spare"}, g.target),
		Rules:     hand(g, r.Rules, api.Rule{Path: "spare"}, g.rule),
	}
}

func (g *given) conf(l []api.Resource) []api.Resource {
	return hand(g, l, service("spare", "spare"), g.resource)
}

func (g *given) wantUntouched(t *testing.T) {
	t.Helper()
	for i, b := range g.texts {
		if string(b) != g.was[i] {
			t.Fatal("a text that was handed in was changed")
		}
	}
	for _, isKept := range g.kept {
		if !isKept() {
			t.Fatal("a list that was handed in was changed")
		}
	}
}

func (g *given) overwrite() {
	for _, b := range g.texts {
		spare.Fill(b, '!')
	}
	for _, change := range g.over {
		change()
	}
}

// everyKind: a configuration in which each list and text is there.
func everyKind(name string) []api.Resource {
	return []api.Resource{
		service("a", "e", name),
		{Kind: api.Split, Name: "s", Targets: []api.Target{{Service: name, Weight: 50}, {Split: "t", Weight: 50}}},
		{Kind: api.Route, Name: "r", Host: name + ".b", Rules: []api.Rule{{Path: "/" + name, Method: "GET", Split: "s"}}},
		{Kind: api.Policy, Name: "p", Route: name, Rules: []api.Rule{{Path: "/*", Method: "*", Allow: true}}},
	}
}

// P20.8: a configuration that is handed in is not changed, and nothing of it kept.
func TestPublishKeepsNothing(t *testing.T) {
	first, second := everyKind("one"), everyKind("two")
	wrong := append(everyKind("three"), service("a"))
	s := push.New()
	var all []*given
	handIn := func(version int, l []api.Resource) api.Errno {
		g := &given{}
		all = append(all, g)
		handed := g.conf(l)
		e := s.Publish(version, handed)
		for _, g := range all {
			g.wantUntouched(t)
		}
		for _, g := range all {
			g.overwrite()
		}
		all = nil
		return e
	}
	if e := handIn(1, first); e != api.OK {
		t.Fatal(e)
	}
	c := joined(t, s, 0)
	wantTaken(t, s, c, delta(1, 0, 1, text(t, first...)))
	read(t, s, c, ack(1, 1))
	if handIn(2, second) != api.OK || handIn(3, wrong) != api.ErrArg || handIn(2, first) != api.ErrArg {
		t.Fatal("Publish")
	}
	wantTaken(t, s, c, delta(2, 1, 2, text(t, second...)))
	other := joined(t, s, 1)
	wantTaken(t, s, other, delta(1, 1, 2, text(t, second...)))
	if handIn(3, first) != api.OK {
		t.Fatal("Publish")
	}
	read(t, s, c, ack(2, 2))
	wantTaken(t, s, c, delta(3, 2, 3, text(t, first...)))
	wantTaken(t, s, joined(t, s, 1), delta(1, 1, 3, ""))
}

// P20.8: bytes that are handed in are not changed, and not kept.
func TestReadKeepsNothing(t *testing.T) {
	said := row(hello("sidecar", 1), ping(258), ack(1, 2))
	want := push.Info{Name: "sidecar", Open: true, Held: 2, Under: -1, Refused: -1}
	for cut := range len(said) + 1 {
		s := begin(t, conf(service("a")), conf(service("a"), service("b")))
		c := open(t, s)
		for _, p := range [][]byte{said[:cut], said[cut:]} {
			list, whole := spare.List(p, 0xa5)
			before := slices.Clone(whole)
			if e := s.Read(c, list); e != api.OK || !bytes.Equal(whole, before) {
				t.Fatalf("%v: %q, was %q", e, whole, before)
			}
			spare.Fill(list, 0x5a)
		}
		wantInfo(t, s, c, want)
		wantTaken(t, s, c, delta(1, 1, 2, "kind: Service\nname: b\n"), ping(258))
	}
}

// P20.8: what was answered is the caller's, the room behind it too, and stays as it is.
func TestAnswersAreNew(t *testing.T) {
	r := rand.New(rand.NewSource(4))
	for range 200 {
		s, m := push.New(), &model{}
		var taken, was [][]byte
		for range 60 {
			someCall(r, m).check(t, s, m)
			spare.Fill(s.Versions(), -7)
			if len(m.conns) == 0 {
				continue
			}
			n := r.Intn(len(m.conns))
			b := s.Take(n)
			if r.Intn(2) == 0 {
				spare.Fill(b, '!')
			}
			taken, was = append(taken, b), append(was, slices.Clone(b))
			m.conns[n].unsent = nil
		}
		takeAll(t, s, m)
		for i, b := range taken {
			if !bytes.Equal(b, was[i]) {
				t.Fatalf("%q, was %q", b, was[i])
			}
		}
	}
}

// P20.8: a name is answered in new memory.
func TestNamesAreNew(t *testing.T) {
	s := begin(t)
	c := joined(t, s, 0)
	one, _ := s.Info(c)
	two, _ := s.Info(c)
	if one.Name != "x" || one != two || unsafe.StringData(one.Name) == unsafe.StringData(two.Name) {
		t.Errorf("%q and %q", one.Name, two.Name)
	}
}

// P20.8: servers have nothing to do with one another.
func TestServersAreApart(t *testing.T) {
	r := rand.New(rand.NewSource(5))
	var servers []*push.Server
	var models []*model
	for range 4 {
		servers, models = append(servers, push.New()), append(models, &model{})
	}
	for range 1000 {
		i := r.Intn(len(servers))
		someCall(r, models[i]).check(t, servers[i], models[i])
	}
	for i, s := range servers {
		takeAll(t, s, models[i])
	}
}

func heap() int {
	var m runtime.MemStats
	runtime.GC()
	runtime.GC()
	runtime.ReadMemStats(&m)
	return int(m.HeapAlloc)
}

// P20.1, P0.4: a version that is not there any more is not kept, whichever was the last of those.
func TestOldVersionsAreNotKept(t *testing.T) {
	big := sized(t, api.MaxText)
	before := heap()
	s := push.New()
	for round := range 20 {
		for range 1 + round%5 {
			publish(t, s, s.Newest()+1, big...)
		}
		for range push.Kept {
			publish(t, s, s.Newest()+1, service("a"))
		}
		if more := heap() - before; more > 1<<15 {
			t.Fatalf("round %d: %d bytes more are kept", round, more)
		}
	}
	runtime.KeepAlive(s)
	runtime.KeepAlive(big)
}

// P0.4: nothing is kept of what was taken, nor of what was to be written to, or read from, a connection that is closed.
func TestNothingMoreIsKept(t *testing.T) {
	big := sized(t, api.MaxText)
	half := row(delta(1, 1, 1, strings.Repeat("t", api.MaxText)))[:60000]
	before := heap()
	s := push.New()
	publish(t, s, 1, big...)
	for range 50 {
		closed, wrong, taken := joined(t, s, 0), joined(t, s, 0), joined(t, s, 0)
		s.Read(closed, half)
		s.Close(closed)
		if e := s.Read(wrong, row(hello("x", 0))); e != api.ErrFrame {
			t.Fatal(e)
		}
		if len(s.Take(taken)) < api.MaxText {
			t.Fatal("no delta")
		}
	}
	if more := heap() - before; more > 1<<19 {
		t.Errorf("%d bytes more are kept", more)
	}
	runtime.KeepAlive(s)
	runtime.KeepAlive(big)
	runtime.KeepAlive(half)
}
