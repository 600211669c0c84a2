package push_test

import (
	"fmt"
	"math/rand"
	"reflect"
	"slices"
	"strings"
	"testing"

	"turnpike/api"
	"turnpike/frames"
	"turnpike/push"
	"turnpike/schema"
)

// model keeps all that was published and all deltas of each connection, and works out from them what is told.
type model struct {
	numbers []int
	confs   [][]api.Resource
	conns   []*side
}

// side is a connection's. A delta without an answer is under way.
type side struct {
	closed   bool
	name     string
	held     int
	refused  []int
	deltas   []frames.Message
	answered int
	rest     []byte
	unsent   []frames.Message
}

func (m *model) newest() int {
	if len(m.numbers) == 0 {
		return 0
	}
	return m.numbers[len(m.numbers)-1]
}

func (m *model) there() []int { return m.numbers[max(0, len(m.numbers)-8):] }

// confOf: none of the version 0, and of what is not there.
func (m *model) confOf(number int) []api.Resource {
	if !slices.Contains(m.there(), number) {
		return nil
	}
	return m.confs[slices.Index(m.numbers, number)]
}

func (m *model) base(number int) int {
	if slices.Contains(m.there(), number) {
		return number
	}
	return 0
}

func compare(a, b api.Resource) int {
	if a.Kind != b.Kind {
		return a.Kind - b.Kind
	}
	return strings.Compare(a.Name, b.Name)
}

func find(l []api.Resource, r api.Resource) int {
	return slices.IndexFunc(l, func(x api.Resource) bool { return compare(x, r) == 0 })
}

// documents: what makes one configuration another.
func documents(from, to []api.Resource) []api.Resource {
	var l []api.Resource
	for _, r := range from {
		if find(to, r) < 0 {
			l = append(l, api.Resource{Kind: r.Kind, Name: r.Name, Delete: true})
		}
	}
	for _, r := range to {
		if i := find(from, r); i < 0 || !reflect.DeepEqual(from[i], r) {
			l = append(l, r)
		}
	}
	slices.SortFunc(l, compare)
	return l
}

func (m *model) push(x *side) {
	newest := m.newest()
	isRefused := len(x.refused) > 0 && x.refused[len(x.refused)-1] == newest
	if x.closed || x.name == "" || x.answered < len(x.deltas) || x.held == newest || isRefused {
		return
	}
	from := m.base(x.held)
	text, e := schema.Text(documents(m.confOf(from), m.confOf(newest))...)
	if e != api.OK {
		from = 0
		text, _ = schema.Text(m.confOf(newest)...)
	}
	d := frames.Message{Kind: frames.Delta, Nonce: len(x.deltas) + 1, From: from, Version: newest, Text: text}
	x.deltas, x.unsent = append(x.deltas, d), append(x.unsent, d)
}

func (m *model) publish(number int, conf []api.Resource) api.Errno {
	for i := 1; i < len(conf); i++ {
		if compare(conf[i-1], conf[i]) >= 0 {
			return api.ErrArg
		}
	}
	if _, e := schema.Text(conf...); e != api.OK || number <= m.newest() {
		return api.ErrArg
	}
	m.numbers, m.confs = append(m.numbers, number), append(m.confs, conf)
	for _, x := range m.conns {
		m.push(x)
	}
	return api.OK
}

// hear: whether a message may come there.
func (m *model) hear(x *side, said frames.Message) bool {
	if (said.Kind == frames.Hello) != (x.name == "") || said.Kind == frames.Delta {
		return false
	}
	if said.Kind == frames.Hello {
		x.name, x.held = said.Name, m.base(said.Version)
		m.push(x)
		return true
	}
	if said.Kind == frames.Ping {
		x.unsent = append(x.unsent, said)
		return true
	}
	if x.answered == len(x.deltas) || said.Nonce != len(x.deltas) {
		return true
	}
	d := x.deltas[len(x.deltas)-1]
	if said.Kind == frames.Ack && said.Version != d.Version {
		return true
	}
	x.answered++
	switch {
	case said.Kind == frames.Ack:
		x.held = d.Version
	case said.Err == 210 && d.From > 0:
		x.held = 0
	default:
		x.refused = append(x.refused, d.Version)
	}
	m.push(x)
	return true
}

func (m *model) read(x *side, p []byte) api.Errno {
	if x.closed {
		return api.ErrArg
	}
	x.rest = append(x.rest, p...)
	for {
		said, size, e := frames.Decode(x.rest)
		if e == api.ErrTorn {
			return api.OK
		}
		if e != api.OK || !m.hear(x, said) {
			x.closed, x.unsent = true, nil
			return api.ErrFrame
		}
		x.rest = x.rest[size:]
	}
}

func (x *side) info() push.Info {
	i := push.Info{Name: x.name, Open: !x.closed, Held: x.held, Under: -1, Refused: -1}
	if x.answered < len(x.deltas) {
		i.Under = x.deltas[len(x.deltas)-1].Version
	}
	if len(x.refused) > 0 {
		i.Refused = x.refused[len(x.refused)-1]
	}
	return i
}

// call is one that a server gets: on Publish the version is so much above the newest.
type call struct {
	kind    int
	conn    int
	above   int
	conf    []api.Resource
	said    []byte
	answers frames.Message // to the last delta: with its Nonce and Version, moved by these
}

// The kinds of a call.
const (
	publishes = iota
	opens
	reads
	answers
	takes
	closes
)

// bytes: what a call reads; the model knows the delta that is answered.
func (c call) bytes(m *model) []byte {
	if c.kind == reads {
		return c.said
	}
	a := c.answers
	if x := m.conns[c.conn]; len(x.deltas) > 0 {
		d := x.deltas[len(x.deltas)-1]
		a.Nonce, a.Version = a.Nonce+d.Nonce, a.Version+d.Version
	}
	return row(a)
}

// of: what the server and the model answer.
func (c call) of(s *push.Server, m *model) (got, want string) {
	if c.kind == publishes {
		number := m.newest() + c.above
		return fmt.Sprint(int(s.Publish(number, c.conf))), fmt.Sprint(int(m.publish(number, c.conf)))
	}
	if c.kind == opens {
		n, e := s.Open()
		m.conns = append(m.conns, &side{})
		return fmt.Sprint(n, int(e)), fmt.Sprint(len(m.conns)-1, 0)
	}
	if c.conn >= len(m.conns) {
		return fmt.Sprint(int(s.Read(c.conn, c.said)), int(s.Close(c.conn)), len(s.Take(c.conn))), "2 2 0"
	}
	x := m.conns[c.conn]
	switch c.kind {
	case takes:
		unsent := row(x.unsent...)
		x.unsent = nil
		return fmt.Sprintf("%q", s.Take(c.conn)), fmt.Sprintf("%q", unsent)
	case closes:
		e := api.OK
		if x.closed {
			e = api.ErrArg
		}
		x.closed, x.unsent = true, nil
		return fmt.Sprint(int(s.Close(c.conn))), fmt.Sprint(int(e))
	}
	p := c.bytes(m)
	return fmt.Sprint(int(s.Read(c.conn, p))), fmt.Sprint(int(m.read(x, p)))
}

// check: the call, and all that is told behind it.
func (c call) check(t *testing.T, s *push.Server, m *model) {
	t.Helper()
	if got, want := c.of(s, m); got != want {
		t.Fatalf("%+v: %s, want %s", c, got, want)
	}
	if !slices.Equal(s.Versions(), m.there()) || s.Newest() != m.newest() {
		t.Fatalf("%+v: %v, %d, want %v", c, s.Versions(), s.Newest(), m.there())
	}
	for n, x := range m.conns {
		if i, is := s.Info(n); !is || i != x.info() {
			t.Fatalf("%+v: connection %d: %+v, want %+v", c, n, i, x.info())
		}
	}
	if i, is := s.Info(len(m.conns)); is || i != (push.Info{}) {
		t.Fatalf("%+v: %+v is there", c, i)
	}
}

func takeAll(t *testing.T, s *push.Server, m *model) {
	t.Helper()
	for n := range m.conns {
		call{kind: takes, conn: n}.check(t, s, m)
	}
}

// P20.1 to P20.5: every row of up to five calls out of these, behind a beginning.
func TestEveryShortRow(t *testing.T) {
	a, b := service("a", "e"), service("b")
	said := func(l ...frames.Message) call { return call{kind: reads, said: row(l...)} }
	answer := func(m frames.Message) call { return call{kind: answers, answers: m} }
	calls := []call{
		{kind: publishes, above: 1, conf: conf(a, b)},
		{kind: publishes, above: 2, conf: conf(service("a"))},
		said(hello("x", 1)),
		said(hello("y", 3), ping(7)),
		answer(ack(0, 0)),
		answer(ack(0, 1)),
		answer(frames.Message{Kind: frames.Nack, Err: api.ErrFrom}),
		answer(frames.Message{Kind: frames.Nack, Err: api.ErrWeights}),
		{kind: takes},
		{kind: closes},
	}
	var further func(done []call, left int)
	further = func(done []call, left int) {
		s, m := push.New(), &model{}
		for _, c := range done {
			c.check(t, s, m)
		}
		takeAll(t, s, m)
		if left == 0 {
			return
		}
		for _, c := range calls {
			further(append(slices.Clone(done), c), left-1)
		}
	}
	further([]call{{kind: publishes, above: 1, conf: conf(a)}, {kind: opens}}, 4)
	further([]call{{kind: publishes, above: 1, conf: conf(a)}, {kind: opens}, said(hello("x", 1)), calls[0]}, 4)
}

func one[T any](r *rand.Rand, l ...T) T { return l[r.Intn(len(l))] }

// someConf: services and splits, few enough that many are alike.
func someConf(r *rand.Rand) []api.Resource {
	var l []api.Resource
	for _, name := range []string{"a", "b", "c", "true"} {
		if r.Intn(2) == 0 {
			l = append(l, service(name, []string{"e", "f", "g"}[:r.Intn(4)]...))
		}
	}
	for _, name := range []string{"a", "s"} {
		if r.Intn(3) == 0 {
			l = append(l, api.Resource{Kind: api.Split, Name: name, Targets: []api.Target{{Service: one(r, "a", "b"), Weight: one(r, 0, 33.3, 100)}}})
		}
	}
	if r.Intn(30) == 0 && len(l) > 1 {
		l[0], l[1] = l[1], l[0]
	}
	if r.Intn(30) == 0 {
		l = append(l, service("no name"))
	}
	return l
}

// someSaid: messages, now and then such as may not be there, and now and then not whole.
func someSaid(r *rand.Rand, m *model) []byte {
	var p []byte
	for range 1 + r.Intn(3) {
		small := func() int { return max(0, m.newest()-r.Intn(12)) }
		switch r.Intn(12) {
		case 0, 1, 2:
			p = append(p, row(hello(one(r, "x", "y"), small()))...)
		case 3, 4:
			p = append(p, row(ping(r.Intn(1000)))...)
		case 5, 6:
			p = append(p, row(ack(1+r.Intn(5), small()))...)
		case 7, 8:
			p = append(p, row(nack(1+r.Intn(5), one(r, api.ErrFrom, api.ErrRing)))...)
		case 9:
			p = append(p, row(delta(1, 0, 1, ""))[:r.Intn(20)]...)
		case 10:
			p = append(p, row(ping(1))[:r.Intn(4)]...)
		default:
			p = append(p, row(hello("z", small()))...)
		}
	}
	return p
}

// someCall: on a connection that there is, or nearly.
func someCall(r *rand.Rand, m *model) call {
	c := call{conn: r.Intn(len(m.conns) + 1)}
	switch n := r.Intn(40); {
	case n < 5:
		return call{kind: publishes, above: one(r, 1, 1, 1, 1, 2, 5, 0, -1), conf: someConf(r)}
	case n < 8:
		return call{kind: opens}
	case n < 9:
		c.kind = closes
	case n < 14:
		c.kind = takes
	case n < 18 || c.conn == len(m.conns):
		c.kind, c.said = reads, someSaid(r, m)
	case m.conns[c.conn].name == "":
		c.kind, c.said = reads, row(hello(one(r, "x", "y"), max(0, m.newest()-r.Intn(12))))
	default:
		c.kind = answers
		c.answers = frames.Message{Kind: frames.Ack, Version: one(r, 0, 0, 0, 1)}
		if r.Intn(3) == 0 {
			c.answers = frames.Message{Kind: frames.Nack, Err: one(r, api.ErrFrom, api.ErrFrom, api.ErrArg)}
		}
		c.answers.Nonce = one(r, 0, 0, 0, 0, 0, 1)
	}
	return c
}

// P20.1 to P20.5: against the model, behind each call.
func TestAgainstModel(t *testing.T) {
	r := rand.New(rand.NewSource(1))
	deltas, fromNought, refused, closed := 0, 0, 0, 0
	for range 600 {
		s, m := push.New(), &model{}
		for range 100 {
			someCall(r, m).check(t, s, m)
		}
		takeAll(t, s, m)
		for _, x := range m.conns {
			deltas, refused = deltas+len(x.deltas), refused+len(x.refused)
			for _, d := range x.deltas {
				if d.From == 0 {
					fromNought++
				}
			}
			if x.closed {
				closed++
			}
		}
	}
	if deltas < 5000 || fromNought < 1500 || deltas-fromNought < 2000 || refused < 500 || closed < 500 || closed > 3000 {
		t.Errorf("deltas %d, from 0 %d, refused %d, closed %d", deltas, fromNought, refused, closed)
	}
}
