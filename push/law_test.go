package push_test

import (
	"math/rand"
	"slices"
	"strings"
	"testing"

	"turnpike/api"
	"turnpike/check"
	"turnpike/frames"
	"turnpike/push"
	"turnpike/schema"
	"turnpike/tree"
)

// sidecar answers deltas, and holds what they make.
type sidecar struct {
	conn    int
	reader  frames.Reader
	version int
	conf    []api.Resource
	deltas  []frames.Message
	answers int
}

// take: a delta's documents, merged into the configuration of its From, make that of its Version.
func (x *sidecar) take(t *testing.T, d frames.Message, published map[int][]api.Resource) {
	t.Helper()
	nodes, fault := tree.Parse([]byte(d.Text))
	if fault.Err != api.OK {
		t.Fatal(fault)
	}
	docs, fault := schema.Decode(nodes)
	if fault.Err != api.OK {
		t.Fatal(fault)
	}
	made, _, e := check.Merge(published[d.From], docs)
	if e != api.OK || !slices.EqualFunc(made, published[d.Version], check.Same) {
		t.Fatalf("from %d to %d: %q makes %v, %v", d.From, d.Version, d.Text, made, e)
	}
	if d.From == x.version || d.From == 0 {
		x.version, x.conf = d.Version, made
	}
}

// hear: what is to be written to it; a delta comes only where the one ahead of it was answered.
func (x *sidecar) hear(t *testing.T, s *push.Server, published map[int][]api.Resource) {
	t.Helper()
	l, e := x.reader.Feed(s.Take(x.conn))
	if e != api.OK {
		t.Fatal(e)
	}
	for _, d := range l {
		if d.Kind != frames.Delta || d.Nonce != len(x.deltas)+1 || x.answers != len(x.deltas) {
			t.Fatalf("behind %d deltas and %d answers: %+v", len(x.deltas), x.answers, d)
		}
		if _, is := published[d.Version]; !is {
			t.Fatalf("a delta to %d", d.Version)
		}
		x.deltas = append(x.deltas, d)
		x.take(t, d, published)
	}
}

// answer: the delta that has none.
func (x *sidecar) answer(t *testing.T, s *push.Server, m frames.Message) {
	t.Helper()
	if x.answers == len(x.deltas) {
		return
	}
	x.answers++
	m.Nonce = len(x.deltas)
	read(t, s, x.conn, m)
}

func (x *sidecar) acknowledge(t *testing.T, s *push.Server) {
	t.Helper()
	x.answer(t, s, ack(0, x.version))
}

// goodConf: such as may be published.
func goodConf(r *rand.Rand) []api.Resource {
	for {
		l := someConf(r)
		if _, e := schema.Text(l...); e == api.OK && check.Ordered(l) {
			return l
		}
	}
}

// longConf: one of which two make most often a delta that is too long, as no service of both is the same.
func longConf(r *rand.Rand) []api.Resource {
	var l []api.Resource
	endpoint := strings.Repeat(string(rune('a'+r.Intn(26))), 60)
	for i := range 104 {
		if r.Intn(104) > 60 {
			continue
		}
		s := service(string([]byte{'a' + byte(i/26), 'a' + byte(i%26)}) + strings.Repeat("n", 60))
		for k := range api.MaxEndpoints {
			s.Endpoints = append(s.Endpoints, endpoint+string(rune('a'+k)))
		}
		l = append(l, s)
	}
	if _, e := schema.Text(l...); e != api.OK || len(l) > api.MaxResources {
		return longConf(r)
	}
	return l
}

// P20.6, P20.7: sidecars that acknowledge each delta, whatever is published meanwhile, and whatever they say that they hold.
func TestComesToHoldTheNewest(t *testing.T) {
	r := rand.New(rand.NewSource(2))
	wholes, tooLong := 0, 0
	for round := range 300 {
		some := goodConf
		if round%30 == 0 {
			some = longConf
		}
		s, published := push.New(), map[int][]api.Resource{}
		var sidecars []*sidecar
		publishOne := func() {
			number := s.Newest() + one(r, 1, 1, 1, 3)
			published[number] = some(r)
			publish(t, s, number, published[number]...)
		}
		for range 40 {
			if r.Intn(5) == 0 {
				publishOne()
			}
			if len(sidecars) < 4 && r.Intn(3) == 0 {
				x := &sidecar{version: max(0, s.Newest()-r.Intn(12))}
				x.conf = published[x.version]
				x.conn = joined(t, s, x.version)
				sidecars = append(sidecars, x)
			}
			if len(sidecars) > 0 {
				x := one(r, sidecars...)
				x.hear(t, s, published)
				if r.Intn(2) == 0 {
					x.acknowledge(t, s)
				}
			}
		}
		for _, x := range sidecars {
			for range 3 {
				x.hear(t, s, published)
				x.acknowledge(t, s)
			}
			i, _ := s.Info(x.conn)
			if i.Under != -1 || i.Held != s.Newest() || x.version != s.Newest() || !slices.EqualFunc(x.conf, published[x.version], check.Same) {
				t.Fatalf("%+v, newest %d, the sidecar holds %d", i, s.Newest(), x.version)
			}
			for k, d := range x.deltas {
				if d.From == 0 {
					wholes++
				}
				if k > 0 && d.From == 0 && d.Version-x.deltas[k-1].Version < push.Kept {
					tooLong++
				}
			}
		}
	}
	if wholes < 500 || tooLong < 50 {
		t.Errorf("%d from 0, of them %d too long else", wholes, tooLong)
	}
}

// P20.6: sidecars that answer whatever they like: no delta comes ahead of the last one's answer, and what was refused does not come again.
func TestOneAtATime(t *testing.T) {
	r := rand.New(rand.NewSource(3))
	refusals := 0
	for range 200 {
		s, published := push.New(), map[int][]api.Resource{}
		var sidecars []*sidecar
		refused := map[int]int{}
		for n := range 3 {
			sidecars = append(sidecars, &sidecar{conn: joined(t, s, 0)})
			refused[n] = -1
		}
		for range 60 {
			if r.Intn(4) == 0 {
				number := s.Newest() + 1
				published[number] = goodConf(r)
				publish(t, s, number, published[number]...)
			}
			n := r.Intn(3)
			x := sidecars[n]
			had := len(x.deltas)
			x.hear(t, s, published)
			if len(x.deltas) > had && x.deltas[had].Version == refused[n] {
				t.Fatalf("%d again", refused[n])
			}
			if r.Intn(3) == 0 || x.answers == len(x.deltas) {
				continue
			}
			d := x.deltas[len(x.deltas)-1]
			switch r.Intn(4) {
			case 0:
				refused[n] = d.Version
				refusals++
				x.answer(t, s, nack(0, api.ErrHost))
			case 1:
				if d.From == 0 {
					refused[n] = d.Version
					refusals++
				}
				x.answer(t, s, nack(0, api.ErrFrom))
			default:
				x.answer(t, s, ack(0, d.Version))
			}
			if i, _ := s.Info(x.conn); i.Refused != refused[n] {
				t.Fatalf("%+v, refused %d", i, refused[n])
			}
		}
	}
	if refusals < 300 {
		t.Errorf("%d refusals", refusals)
	}
}
