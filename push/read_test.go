package push_test

import (
	"slices"
	"strings"
	"testing"

	"turnpike/api"
	"turnpike/frames"
	"turnpike/push"
)

// P20.3: what closes a connection; what stands ahead of that is done with, and what stands behind it is not.
func TestReadCloses(t *testing.T) {
	turned := row(ping(1))
	turned[9] ^= 1
	none := []byte{0, 0, 0, 1, 0, 0, 0, 0, 6}
	for name, x := range map[string]struct {
		ahead []frames.Message
		wrong []byte
		want  push.Info
	}{
		"hello again":             {[]frames.Message{hello("a", 1)}, row(hello("b", 2)), push.Info{Name: "a", Held: 1, Under: 2, Refused: -1}},
		"the same hello again":    {[]frames.Message{hello("a", 2)}, row(hello("a", 2)), push.Info{Name: "a", Held: 2, Under: -1, Refused: -1}},
		"hello behind an answer":  {[]frames.Message{hello("a", 1), ack(1, 2)}, row(hello("a", 1)), push.Info{Name: "a", Held: 2, Under: -1, Refused: -1}},
		"a delta":                 {[]frames.Message{hello("a", 1)}, row(delta(1, 1, 2, "")), push.Info{Name: "a", Held: 1, Under: 2, Refused: -1}},
		"a delta, all held":       {[]frames.Message{hello("a", 2), ping(1)}, row(delta(0, 0, 0, "")), push.Info{Name: "a", Held: 2, Under: -1, Refused: -1}},
		"a delta ahead of hello":  {nil, row(delta(1, 1, 2, "")), push.Info{Under: -1, Refused: -1}},
		"an ack ahead of hello":   {nil, row(ack(1, 2)), push.Info{Under: -1, Refused: -1}},
		"an ack of noughts":       {nil, row(ack(0, 0)), push.Info{Under: -1, Refused: -1}},
		"a nack ahead of hello":   {nil, row(nack(1, api.ErrArg)), push.Info{Under: -1, Refused: -1}},
		"a ping ahead of hello":   {nil, row(ping(1)), push.Info{Under: -1, Refused: -1}},
		"a turned bit":            {nil, turned, push.Info{Under: -1, Refused: -1}},
		"a turned bit behind all": {[]frames.Message{hello("a", 1), nack(1, api.ErrArg), ping(3)}, turned, push.Info{Name: "a", Held: 1, Under: -1, Refused: 2}},
		"a length above all":      {[]frames.Message{hello("a", 7)}, []byte{255, 255, 255, 255}, push.Info{Name: "a", Held: 0, Under: 2, Refused: -1}},
		"no message's payload":    {[]frames.Message{hello("a", 7)}, none, push.Info{Name: "a", Held: 0, Under: 2, Refused: -1}},
	} {
		for _, way := range []struct{ apart, more bool }{{}, {apart: true}, {more: true}, {true, true}} {
			s := begin(t, conf(service("a")), conf(service("b")))
			c := open(t, s)
			p := x.wrong
			if way.more {
				p = slices.Concat(p, row(hello("late", 2), ack(1, 2), nack(1, api.ErrFrom), ping(9)))
			}
			if way.apart {
				read(t, s, c, x.ahead...)
			} else {
				p = slices.Concat(row(x.ahead...), p)
			}
			if e := s.Read(c, p); e != api.ErrFrame {
				t.Fatalf("%s, %+v: %v", name, way, e)
			}
			wantInfo(t, s, c, x.want)
			wantTaken(t, s, c)
			if s.Read(c, nil) != api.ErrArg || s.Close(c) != api.ErrArg {
				t.Fatalf("%s: still open", name)
			}
		}
	}
}

// P20.3: the Name is any that a Hello may have.
func TestNames(t *testing.T) {
	s := begin(t)
	for _, name := range []string{"a", "\x00", "\xff \n", strings.Repeat("n", api.MaxName)} {
		c := open(t, s)
		read(t, s, c, hello(name, 0))
		wantInfo(t, s, c, push.Info{Name: name, Open: true, Under: -1, Refused: -1})
	}
}

// P20.3: each answer to the delta of Nonce 2 (of Version 3, from 2) and what is not one.
func TestAnswers(t *testing.T) {
	under := push.Info{Name: "x", Open: true, Held: 2, Under: 3, Refused: -1}
	all := "kind: Service\nname: c\n"
	for name, x := range map[string]struct {
		m       frames.Message
		want    push.Info
		written []frames.Message
	}{
		"the ack":             {ack(2, 3), push.Info{Name: "x", Open: true, Held: 3, Under: -1, Refused: -1}, nil},
		"an earlier ack":      {ack(1, 2), under, nil},
		"an earlier Nonce":    {ack(1, 3), under, nil},
		"a later Nonce":       {ack(3, 3), under, nil},
		"no Nonce":            {ack(0, 0), under, nil},
		"an earlier Version":  {ack(2, 2), under, nil},
		"a later Version":     {ack(2, 4), under, nil},
		"the Version 0":       {ack(2, 0), under, nil},
		"the nack":            {nack(2, api.ErrKind), push.Info{Name: "x", Open: true, Held: 2, Under: -1, Refused: 3}, nil},
		"an earlier nack":     {nack(1, api.ErrKind), under, nil},
		"a later nack":        {nack(3, api.ErrFrom), under, nil},
		"a nack of no Nonce":  {nack(0, api.ErrFrom), under, nil},
		"ErrFrom":             {nack(2, api.ErrFrom), push.Info{Name: "x", Open: true, Held: 0, Under: 3, Refused: -1}, []frames.Message{delta(3, 0, 3, all)}},
		"an error beside it":  {nack(2, api.ErrFrom+1), push.Info{Name: "x", Open: true, Held: 2, Under: -1, Refused: 3}, nil},
		"the greatest error":  {nack(2, 65535), push.Info{Name: "x", Open: true, Held: 2, Under: -1, Refused: 3}, nil},
		"a ping":              {ping(2), under, []frames.Message{ping(2)}},
		"a ping of 0":         {ping(0), under, []frames.Message{ping(0)}},
		"the greatest ping":   {ping(frames.MaxNumber), under, []frames.Message{ping(frames.MaxNumber)}},
		"nack with a Version": {frames.Message{Kind: frames.Nack, Nonce: 2, Version: 3, Err: api.ErrKind}, push.Info{Name: "x", Open: true, Held: 2, Under: -1, Refused: 3}, nil},
	} {
		s := begin(t, conf(service("a")), conf(service("b")))
		c := joined(t, s, 1)
		read(t, s, c, ack(1, 2))
		publish(t, s, 3, service("c"))
		s.Take(c)
		wantInfo(t, s, c, under)
		read(t, s, c, x.m)
		if i, _ := s.Info(c); i != x.want {
			t.Errorf("%s: %+v, want %+v", name, i, x.want)
		}
		wantTaken(t, s, c, x.written...)
	}
}

// P20.3: with nothing under way, answers are passed over, whatever they say.
func TestNothingUnderWay(t *testing.T) {
	s := begin(t, conf(service("a")))
	c := joined(t, s, 1)
	want := push.Info{Name: "x", Open: true, Held: 1, Under: -1, Refused: -1}
	for nonce := range 3 {
		for version := range 3 {
			read(t, s, c, ack(nonce, version))
			wantInfo(t, s, c, want)
		}
		read(t, s, c, nack(nonce, api.ErrFrom), nack(nonce, api.ErrArg))
		wantInfo(t, s, c, want)
		wantTaken(t, s, c)
	}
	publish(t, s, 2)
	read(t, s, c, ack(1, 2))
	read(t, s, c, ack(1, 2), nack(1, api.ErrFrom), nack(1, api.ErrArg), ack(2, 2))
	wantInfo(t, s, c, push.Info{Name: "x", Open: true, Held: 2, Under: -1, Refused: -1})
	publish(t, s, 3)
	read(t, s, c, nack(2, api.ErrArg))
	read(t, s, c, nack(2, api.ErrFrom), ack(2, 3))
	wantInfo(t, s, c, push.Info{Name: "x", Open: true, Held: 2, Under: -1, Refused: 3})
}

// P20.3: a Nack with ErrFrom to what came from 0 refuses it; the last one that was refused is told.
func TestRefused(t *testing.T) {
	s := begin(t, conf(service("a")))
	c := joined(t, s, 0)
	read(t, s, c, nack(1, api.ErrFrom))
	wantInfo(t, s, c, push.Info{Name: "x", Open: true, Held: 0, Under: -1, Refused: 1})
	wantTaken(t, s, c, delta(1, 0, 1, "kind: Service\nname: a\n"))
	publish(t, s, 2, service("b"))
	wantTaken(t, s, c, delta(2, 0, 2, "kind: Service\nname: b\n"))
	publish(t, s, 3, service("c"))
	read(t, s, c, nack(2, api.ErrArg))
	wantInfo(t, s, c, push.Info{Name: "x", Open: true, Held: 0, Under: 3, Refused: 2})
	wantTaken(t, s, c, delta(3, 0, 3, "kind: Service\nname: c\n"))
	read(t, s, c, ack(3, 3))
	wantInfo(t, s, c, push.Info{Name: "x", Open: true, Held: 3, Under: -1, Refused: 2})
	publish(t, s, 5)
	read(t, s, c, nack(4, api.ErrFrom), nack(5, api.ErrFrom))
	wantInfo(t, s, c, push.Info{Name: "x", Open: true, Held: 0, Under: -1, Refused: 5})
	wantTaken(t, s, c, delta(4, 3, 5, "kind: Service\nname: c\ndelete: true\n"), delta(5, 0, 5, ""))
}

// P20.3: what one connection says is nothing to the others; each has its own Nonces.
func TestConnectionsAreApart(t *testing.T) {
	s := begin(t, conf(service("a")))
	one, two := joined(t, s, 0), joined(t, s, 0)
	read(t, s, one, ack(1, 1))
	publish(t, s, 2, service("a"), service("b"))
	first := delta(1, 0, 1, "kind: Service\nname: a\n")
	added := "kind: Service\nname: b\n"
	wantTaken(t, s, one, first, delta(2, 1, 2, added))
	wantTaken(t, s, two, first)
	read(t, s, two, ack(2, 2))
	wantInfo(t, s, one, push.Info{Name: "x", Open: true, Held: 1, Under: 2, Refused: -1})
	wantInfo(t, s, two, push.Info{Name: "x", Open: true, Held: 0, Under: 1, Refused: -1})
	read(t, s, two, ack(1, 1))
	wantTaken(t, s, two, delta(2, 1, 2, added))
	if s.Read(one, row(hello("x", 1))) != api.ErrFrame {
		t.Fatal("hello again")
	}
	read(t, s, two, ack(2, 2))
	wantInfo(t, s, two, push.Info{Name: "x", Open: true, Held: 2, Under: -1, Refused: -1})
}

// P20.3: messages in whatever pieces; of a part of one nothing is done.
func TestPieces(t *testing.T) {
	said := row(hello("x", 1), ping(4), ack(1, 2), ping(5))
	written := []frames.Message{delta(1, 1, 2, "kind: Service\nname: b\n"), ping(4), ping(5)}
	for first := range len(said) + 1 {
		for second := first; second <= len(said); second++ {
			s := begin(t, conf(service("a")), conf(service("a"), service("b")))
			c := open(t, s)
			for _, p := range [][]byte{said[:first], nil, said[first:second], said[second:]} {
				if e := s.Read(c, p); e != api.OK {
					t.Fatal(e)
				}
			}
			wantInfo(t, s, c, push.Info{Name: "x", Open: true, Held: 2, Under: -1, Refused: -1})
			wantTaken(t, s, c, written...)
		}
	}
}

// P20.4: all that was written since the last Take, in order.
func TestTake(t *testing.T) {
	s := begin(t, conf(service("a")))
	c := joined(t, s, 1)
	wantTaken(t, s, c)
	read(t, s, c, ping(1))
	publish(t, s, 2)
	read(t, s, c, ping(2), ping(3))
	wantTaken(t, s, c, ping(1), delta(1, 1, 2, "kind: Service\nname: a\ndelete: true\n"), ping(2), ping(3))
	read(t, s, c, ping(4))
	wantTaken(t, s, c, ping(4))
}
