package push_test

import (
	"math"
	"slices"
	"strings"
	"testing"

	"turnpike/api"
	"turnpike/frames"
	"turnpike/push"
	"turnpike/schema"
)

func service(name string, endpoints ...string) api.Resource {
	return api.Resource{Kind: api.Service, Name: name, Endpoints: endpoints}
}

func conf(l ...api.Resource) []api.Resource { return l }

func gone(r api.Resource) api.Resource {
	return api.Resource{Kind: r.Kind, Name: r.Name, Delete: true}
}

func hello(name string, version int) frames.Message {
	return frames.Message{Kind: frames.Hello, Name: name, Version: version}
}

func delta(nonce, from, version int, text string) frames.Message {
	return frames.Message{Kind: frames.Delta, Nonce: nonce, From: from, Version: version, Text: text}
}

func ack(nonce, version int) frames.Message {
	return frames.Message{Kind: frames.Ack, Nonce: nonce, Version: version}
}

// nack: a sidecar tells the version that it holds, which no promise looks at; so it is one that never is.
func nack(nonce int, e api.Errno) frames.Message {
	return frames.Message{Kind: frames.Nack, Nonce: nonce, Version: 1 << 40, Err: e}
}

func ping(nonce int) frames.Message { return frames.Message{Kind: frames.Ping, Nonce: nonce} }

// row: the frames of messages, one behind the other.
func row(l ...frames.Message) []byte {
	var b []byte
	for _, m := range l {
		frame, e := frames.Encode(m)
		if e != api.OK {
			panic("a test's message may not be")
		}
		b = append(b, frame...)
	}
	return b
}

func text(t *testing.T, l ...api.Resource) string {
	t.Helper()
	s, e := schema.Text(l...)
	if e != api.OK {
		t.Fatal(e)
	}
	return s
}

// sized: a configuration of 64 services whose text has n bytes.
func sized(t *testing.T, n int) []api.Resource {
	t.Helper()
	var l []api.Resource
	for i := range api.MaxResources {
		s := service("s" + string([]byte{'0' + byte(i/10), '0' + byte(i%10)}))
		for k := range api.MaxEndpoints {
			s.Endpoints = append(s.Endpoints, string([]byte{'e', 'a' + byte(k)}))
		}
		l = append(l, s)
	}
	left := n - len(text(t, l...))
	for _, s := range l {
		for k := range s.Endpoints {
			more := min(left, api.MaxName-2)
			s.Endpoints[k] += strings.Repeat("x", more)
			left -= more
		}
	}
	if left != 0 {
		t.Fatalf("no configuration of %d bytes", n)
	}
	return l
}

// begin: a server to which these were published, from 1 on.
func begin(t *testing.T, confs ...[]api.Resource) *push.Server {
	t.Helper()
	s := push.New()
	for i, c := range confs {
		publish(t, s, i+1, c...)
	}
	return s
}

func publish(t *testing.T, s *push.Server, version int, l ...api.Resource) {
	t.Helper()
	if e := s.Publish(version, l); e != api.OK {
		t.Fatalf("Publish of %d: %v", version, e)
	}
}

func open(t *testing.T, s *push.Server) int {
	t.Helper()
	c, e := s.Open()
	if e != api.OK {
		t.Fatal(e)
	}
	return c
}

// joined: a new connection that said hello.
func joined(t *testing.T, s *push.Server, version int) int {
	t.Helper()
	c := open(t, s)
	read(t, s, c, hello("x", version))
	return c
}

func read(t *testing.T, s *push.Server, c int, l ...frames.Message) {
	t.Helper()
	if e := s.Read(c, row(l...)); e != api.OK {
		t.Fatalf("Read of %+v: %v", l, e)
	}
}

// wantTaken: what is to be written is just these messages, and then nothing.
func wantTaken(t *testing.T, s *push.Server, c int, want ...frames.Message) {
	t.Helper()
	if got := s.Take(c); !slices.Equal(got, row(want...)) {
		t.Fatalf("Take: %q, want %q", got, row(want...))
	}
	if got := s.Take(c); len(got) != 0 {
		t.Fatalf("Take again: %q", got)
	}
}

func wantInfo(t *testing.T, s *push.Server, c int, want push.Info) {
	t.Helper()
	if got, is := s.Info(c); !is || got != want {
		t.Fatalf("Info: %+v, %v, want %+v", got, is, want)
	}
}

func wantVersions(t *testing.T, s *push.Server, want ...int) {
	t.Helper()
	newest := 0
	if len(want) > 0 {
		newest = want[len(want)-1]
	}
	if !slices.Equal(s.Versions(), want) || s.Newest() != newest {
		t.Fatalf("%v, newest %d, want %v", s.Versions(), s.Newest(), want)
	}
}

// P20.1 to P20.5: the chapter's examples.
func TestExamples(t *testing.T) {
	a, b := service("a"), service("b")
	s := begin(t, conf(a), conf(a, b))
	c := joined(t, s, 1)
	wantTaken(t, s, c, delta(1, 1, 2, "kind: Service\nname: b\n"))
	read(t, s, c, ack(1, 2))
	wantTaken(t, s, c)
	wantInfo(t, s, c, push.Info{Name: "x", Open: true, Held: 2, Under: -1, Refused: -1})
	publish(t, s, 3, b)
	wantTaken(t, s, c, delta(2, 2, 3, "kind: Service\nname: a\ndelete: true\n"))
	read(t, s, c, nack(2, api.ErrDangling))
	wantInfo(t, s, c, push.Info{Name: "x", Open: true, Held: 2, Under: -1, Refused: 3})
	wantTaken(t, s, c)
	publish(t, s, 4, a)
	wantTaken(t, s, c, delta(3, 2, 4, "kind: Service\nname: b\ndelete: true\n"))
	read(t, s, c, nack(3, api.ErrFrom))
	wantTaken(t, s, c, delta(4, 0, 4, "kind: Service\nname: a\n"))
	for _, l := range [][]frames.Message{{hello("x", 1), hello("x", 1)}, {ack(1, 2)}} {
		c := open(t, s)
		if s.Read(c, row(l...)) != api.ErrFrame || s.Close(c) != api.ErrArg {
			t.Errorf("%+v: not closed", l)
		}
	}
}

// P20.1: each error, and that it changes nothing.
func TestPublishRefuses(t *testing.T) {
	a, b := service("a"), service("b")
	split := func(targets ...api.Target) api.Resource {
		return api.Resource{Kind: api.Split, Name: "s", Targets: targets}
	}
	var many []api.Resource
	for i := range api.MaxResources + 1 {
		many = append(many, service(string([]byte{'a' + byte(i/26), 'a' + byte(i%26)})))
	}
	long := sized(t, api.MaxText)
	long[5].Name += "x"
	s := begin(t, conf(a), conf(a))
	c := joined(t, s, 2)
	wantTaken(t, s, c)
	for name, x := range map[string]struct {
		version int
		conf    []api.Resource
	}{
		"the newest":             {2, conf(b)},
		"an older one":           {1, conf(b)},
		"0":                      {0, conf(b)},
		"below 0":                {-1, conf(b)},
		"the least int":          {math.MinInt, conf(b)},
		"above MaxVersions":      {api.MaxVersions + 1, conf(b)},
		"the greatest int":       {math.MaxInt, conf(b)},
		"too many":               {3, many},
		"out of order":           {3, conf(b, a)},
		"twice":                  {3, conf(a, a)},
		"kinds out of order":     {3, conf(split(api.Target{Service: "a", Weight: 100}), a)},
		"a Delete":               {3, conf(gone(a))},
		"the Kind 0":             {3, conf(api.Resource{Name: "a"})},
		"the Kind 5":             {3, conf(api.Resource{Kind: 5, Name: "a"})},
		"no name":                {3, conf(service(""))},
		"no name's bytes":        {3, conf(service("a b"))},
		"an endpoint twice":      {3, conf(service("a", "e", "e"))},
		"a split of none":        {3, conf(split())},
		"a weight no number":     {3, conf(split(api.Target{Service: "a", Weight: math.NaN()}))},
		"a field of another":     {3, conf(api.Resource{Kind: api.Service, Name: "a", Host: "h"})},
		"the last one is wrong":  {3, conf(a, b, service("c", " "))},
		"a text that's too long": {3, long},
	} {
		if e := s.Publish(x.version, x.conf); e != api.ErrArg {
			t.Errorf("%s: %v", name, e)
		}
		wantVersions(t, s, 1, 2)
		wantInfo(t, s, c, push.Info{Name: "x", Open: true, Held: 2, Under: -1, Refused: -1})
		wantTaken(t, s, c)
	}
	publish(t, s, 3, b)
	wantTaken(t, s, c, delta(1, 2, 3, "kind: Service\nname: a\ndelete: true\n---\nkind: Service\nname: b\n"))
}

// P20.1: the edges of what may be published, and what need not stand.
func TestPublishTakes(t *testing.T) {
	s := push.New()
	wantVersions(t, s)
	publish(t, s, 1)
	publish(t, s, 2, api.Resource{Kind: api.Policy, Name: "p", Route: "none", Rules: []api.Rule{{Path: "*", Method: "*"}}})
	publish(t, s, 1000, sized(t, api.MaxText)...)
	publish(t, s, api.MaxVersions, sized(t, 40000)...)
	wantVersions(t, s, 1, 2, 1000, api.MaxVersions)
	if e := s.Publish(api.MaxVersions+1, nil); e != api.ErrArg {
		t.Error(e)
	}
}

// P20.1: the last Kept are there, whatever their numbers.
func TestKept(t *testing.T) {
	s := push.New()
	var all []int
	for i := range 30 {
		version := 1 + i*i
		publish(t, s, version, service("a"))
		all = append(all, version)
		wantVersions(t, s, all[max(0, len(all)-push.Kept):]...)
	}
}

// P20.1, P20.3: a version that is there is a base; one that isn't there any more, or never was, is not.
func TestBases(t *testing.T) {
	var confs [][]api.Resource
	for i := range 10 {
		confs = append(confs, conf(service(string(rune('a'+i)))))
	}
	s := begin(t, confs...)
	newest := text(t, confs[9]...)
	for version := range 12 {
		c := joined(t, s, version)
		switch {
		case version == 10:
			wantTaken(t, s, c)
			wantInfo(t, s, c, push.Info{Name: "x", Open: true, Held: 10, Under: -1, Refused: -1})
		case version < 3 || version > 10:
			wantTaken(t, s, c, delta(1, 0, 10, newest))
			wantInfo(t, s, c, push.Info{Name: "x", Open: true, Held: 0, Under: 10, Refused: -1})
		default:
			wantTaken(t, s, c, delta(1, version, 10, text(t, gone(confs[version-1][0]), confs[9][0])))
			wantInfo(t, s, c, push.Info{Name: "x", Open: true, Held: version, Under: 10, Refused: -1})
		}
	}
}

// P20.1: a version that is held, and goes out of those that are there, is no base any more.
func TestHeldAndGone(t *testing.T) {
	s := begin(t, conf(service("a")))
	c := joined(t, s, 1)
	publish(t, s, 2, service("b"))
	wantTaken(t, s, c, delta(1, 1, 2, "kind: Service\nname: a\ndelete: true\n---\nkind: Service\nname: b\n"))
	for version := 3; version < 12; version++ {
		publish(t, s, version, service("c"))
	}
	wantTaken(t, s, c)
	wantInfo(t, s, c, push.Info{Name: "x", Open: true, Held: 1, Under: 2, Refused: -1})
	read(t, s, c, ack(1, 2))
	wantInfo(t, s, c, push.Info{Name: "x", Open: true, Held: 2, Under: 11, Refused: -1})
	wantTaken(t, s, c, delta(2, 0, 11, "kind: Service\nname: c\n"))
}

// P20.1: each connection is pushed to that is open, said hello, and has nothing under way.
func TestPublishPushes(t *testing.T) {
	s := begin(t, conf(service("a")))
	silent, idle, busy, closed, last := open(t, s), joined(t, s, 1), joined(t, s, 0), joined(t, s, 1), joined(t, s, 1)
	wantTaken(t, s, busy, delta(1, 0, 1, "kind: Service\nname: a\n"))
	s.Close(closed)
	publish(t, s, 2, service("a"), service("b"))
	added := "kind: Service\nname: b\n"
	wantTaken(t, s, silent)
	wantTaken(t, s, idle, delta(1, 1, 2, added))
	wantTaken(t, s, busy)
	wantTaken(t, s, closed)
	wantTaken(t, s, last, delta(1, 1, 2, added))
	wantInfo(t, s, silent, push.Info{Open: true, Under: -1, Refused: -1})
	wantInfo(t, s, idle, push.Info{Name: "x", Open: true, Held: 1, Under: 2, Refused: -1})
	wantInfo(t, s, busy, push.Info{Name: "x", Open: true, Held: 0, Under: 1, Refused: -1})
	wantInfo(t, s, closed, push.Info{Name: "x", Held: 1, Under: -1, Refused: -1})
	read(t, s, busy, ack(1, 1))
	wantTaken(t, s, busy, delta(2, 1, 2, added))
}

// P20.1: a version of the same configuration is a delta without documents.
func TestSameConfiguration(t *testing.T) {
	s := begin(t, conf(service("a")), conf(service("a")))
	c := joined(t, s, 1)
	wantTaken(t, s, c, delta(1, 1, 2, ""))
	empty := begin(t, nil)
	wantTaken(t, empty, joined(t, empty, 0), delta(1, 0, 1, ""))
}

// P20.1: a delta that is too long becomes the whole configuration, from 0; a Text of just MaxText goes.
func TestTooLong(t *testing.T) {
	z := service("z")
	more := len(text(t, service("a"), gone(z))) - len(text(t, service("a")))
	for _, over := range []int{0, 1} {
		to := sized(t, api.MaxText-more+over)
		s := begin(t, conf(z), to)
		c := joined(t, s, 1)
		if over == 0 {
			wantTaken(t, s, c, delta(1, 1, 2, text(t, append(slices.Clone(to), gone(z))...)))
			read(t, s, c, nack(1, api.ErrFrom))
			wantInfo(t, s, c, push.Info{Name: "x", Open: true, Held: 0, Under: 2, Refused: -1})
			wantTaken(t, s, c, delta(2, 0, 2, text(t, to...)))
			continue
		}
		wantTaken(t, s, c, delta(1, 0, 2, text(t, to...)))
		wantInfo(t, s, c, push.Info{Name: "x", Open: true, Held: 1, Under: 2, Refused: -1})
		read(t, s, c, nack(1, api.ErrFrom))
		wantInfo(t, s, c, push.Info{Name: "x", Open: true, Held: 1, Under: -1, Refused: 2})
		wantTaken(t, s, c)
	}
}

// P20.2: as many as there may be, closed ones among them.
func TestMaxConns(t *testing.T) {
	s := begin(t, conf(service("a")))
	for want := range push.MaxConns {
		if c := open(t, s); c != want {
			t.Fatalf("%d, want %d", c, want)
		}
	}
	for _, closed := range []int{0, 7, push.MaxConns - 2} {
		if c, e := s.Open(); c != -1 || e != api.ErrLong {
			t.Fatal(c, e)
		}
		if e := s.Close(closed); e != api.OK {
			t.Fatal(e)
		}
	}
	if c, e := s.Open(); c != -1 || e != api.ErrLong {
		t.Fatal(c, e)
	}
	read(t, s, push.MaxConns-1, hello("last", 0))
	wantTaken(t, s, push.MaxConns-1, delta(1, 0, 1, "kind: Service\nname: a\n"))
	if _, is := s.Info(push.MaxConns); is {
		t.Error("one too many")
	}
}

// P20.2, P20.4: what was to be written to a closed connection isn't any more; what is known of the sidecar is.
func TestClose(t *testing.T) {
	s := begin(t, conf(service("a")), conf(service("b")))
	wantInfo(t, s, open(t, s), push.Info{Open: true, Under: -1, Refused: -1})
	c, other := joined(t, s, 1), joined(t, s, 0)
	read(t, s, c, nack(1, api.ErrArg))
	publish(t, s, 3)
	if e := s.Close(c); e != api.OK {
		t.Fatal(e)
	}
	closed := push.Info{Name: "x", Held: 1, Under: 3, Refused: 2}
	for range 2 {
		wantInfo(t, s, c, closed)
		wantTaken(t, s, c)
		if s.Close(c) != api.ErrArg || s.Read(c, nil) != api.ErrArg || s.Read(c, row(ack(2, 3))) != api.ErrArg {
			t.Fatal("a closed connection")
		}
		publish(t, s, s.Newest()+1, service("c"))
	}
	wantTaken(t, s, other, delta(1, 0, 2, "kind: Service\nname: b\n"))
	if c := open(t, s); c != 3 {
		t.Errorf("a number again: %d", c)
	}
}

// P20.2 to P20.5: connections that aren't there.
func TestNoConnection(t *testing.T) {
	s := begin(t, conf(service("a")))
	c := joined(t, s, 0)
	for _, none := range []int{-1, 1, 2, math.MinInt, math.MaxInt} {
		if s.Close(none) != api.ErrArg || s.Read(none, row(hello("x", 0))) != api.ErrArg || s.Read(none, nil) != api.ErrArg {
			t.Errorf("%d is there", none)
		}
		if i, is := s.Info(none); is || i != (push.Info{}) || len(s.Take(none)) != 0 {
			t.Errorf("%d: %+v, %v", none, i, is)
		}
	}
	wantTaken(t, s, c, delta(1, 0, 1, "kind: Service\nname: a\n"))
}

// P20.1 to P20.5: of a nil server, and of the zero one.
func TestNoServer(t *testing.T) {
	var s *push.Server
	c, e := s.Open()
	i, is := s.Info(0)
	if c != -1 || e != api.ErrNil || i != (push.Info{}) || is {
		t.Error(c, e, i, is)
	}
	if s.Publish(1, nil) != api.ErrNil || s.Publish(-1, nil) != api.ErrNil || s.Read(0, nil) != api.ErrNil || s.Close(0) != api.ErrNil {
		t.Error("no ErrNil")
	}
	if len(s.Take(0)) != 0 || s.Newest() != 0 || len(s.Versions()) != 0 {
		t.Error("something is there")
	}
	zero := &push.Server{}
	wantVersions(t, zero)
	publish(t, zero, 1, service("a"))
	wantTaken(t, zero, joined(t, zero, 0), delta(1, 0, 1, "kind: Service\nname: a\n"))
}
