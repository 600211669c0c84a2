package emit_test

import (
	"math/rand"
	"runtime"
	"slices"
	"strings"
	"testing"
	"unsafe"

	"turnpike/api"
	"turnpike/emit"
	"turnpike/spare"
)

// loose: a text in memory that the test may change.
func loose(s string) (string, []byte) {
	b := []byte(s)
	return unsafe.String(unsafe.SliceData(b), len(b)), b
}

// handed is a list as a caller hands it in, with the memory that it lies in, and a second one that is like it.
type handed struct {
	list, all, kept []api.Node
	texts           [][]byte
}

func hand(l []api.Node) *handed {
	h := &handed{}
	h.list, h.all = spare.List(l, api.Node{Kind: api.Scalar, Key: "spare"})
	h.kept = slices.Clone(h.all)
	for i := range h.list {
		n := &h.list[i]
		h.kept[i].Key, h.kept[i].Text, h.kept[i].Kids = strings.Clone(n.Key), strings.Clone(n.Text), slices.Clone(n.Kids)
		key, keyBytes := loose(n.Key)
		text, textBytes := loose(n.Text)
		kids, _ := spare.List(n.Kids, 1)
		n.Key, n.Text, n.Kids = key, text, kids
		h.texts = append(h.texts, keyBytes, textBytes)
	}
	return h
}

// wantUntouched: neither the list nor the room behind it, or behind its kids, was changed.
func (h *handed) wantUntouched(t *testing.T) {
	t.Helper()
	whole := func(a, b api.Node) bool { return a.Line == b.Line && a.Quoted == b.Quoted }
	if !emit.Same(h.all, h.kept) || !slices.EqualFunc(h.all, h.kept, whole) {
		t.Fatalf("%s was changed", told(h.kept))
	}
	for _, n := range h.list {
		if slices.ContainsFunc(n.Kids[len(n.Kids):cap(n.Kids)], func(k int) bool { return k != 1 }) {
			t.Fatalf("the room behind the kids %v was changed", n.Kids)
		}
	}
}

// overwrite changes all that was handed in.
func (h *handed) overwrite() {
	for _, b := range h.texts {
		spare.Fill(b, '!')
	}
	for _, n := range h.list {
		spare.Fill(n.Kids, -9)
	}
	spare.Fill(h.list, api.Node{Kind: 9})
}

// P10.5: lists are neither changed nor kept: what was answered stays as it was when they are changed.
func TestLists(t *testing.T) {
	r := rand.New(rand.NewSource(6))
	lists := [][]api.Node{nil, {scalar("x")}, {quoted("x")}, {quoted("")}, {scalar("*")}, {scalar(strings.Repeat("x", 65536))}, mapOf(under("k", scalar("v")))}
	for i := range 300 {
		l := anyTree(r, r.Intn(20), i%2 == 0)
		lists = append(lists, l, spoil(r, slices.Clone(l)))
	}
	for _, l := range lists {
		h, other := hand(l), hand(l)
		got, e := emit.Emit(h.list)
		want := strings.Clone(got)
		if emit.May(h.list) != e || !emit.Same(h.list, other.list) {
			t.Fatalf("%s: May and Emit, or Same of itself", told(l))
		}
		h.wantUntouched(t)
		other.wantUntouched(t)
		h.overwrite()
		if got != want {
			t.Fatalf("%s: %.200q was %.200q", told(l), got, want)
		}
		if again, f := emit.Emit(other.list); again != want || f != e {
			t.Fatalf("%s: %.200q, %d, then %.200q, %d", told(l), want, int(e), again, int(f))
		}
	}
}

// P10.5: so are the texts that are joined.
func TestTextsThatAreJoined(t *testing.T) {
	for _, docs := range [][]string{nil, {""}, {"a"}, {"", "a\n", ""}, {"a\n", "b\n"}, {"a\n", "", "b\n", "", "", "c\n"}} {
		list, all := spare.List(docs, "spare")
		kept := slices.Clone(all)
		var texts [][]byte
		for i := range list {
			s, b := loose(list[i])
			list[i] = s
			texts = append(texts, b)
		}
		got := emit.Join(list...)
		want := strings.Clone(got)
		if !slices.Equal(all, kept) {
			t.Errorf("%q was changed: %q", kept, all)
		}
		for _, b := range texts {
			spare.Fill(b, '!')
		}
		spare.Fill(list, "!")
		if got != want {
			t.Errorf("%q: %q was %q", docs, got, want)
		}
	}
}

func heap() int {
	var m runtime.MemStats
	runtime.GC()
	runtime.GC()
	runtime.ReadMemStats(&m)
	return int(m.HeapAlloc)
}

// P0.4: who keeps a text keeps no more than that.
func TestNothingMoreIsKept(t *testing.T) {
	var kept []string
	before := heap()
	for range 100 {
		big := strings.Repeat("x", 60000)
		one, e := emit.Emit([]api.Node{quoted(big[:3])})
		two, f := emit.Emit([]api.Node{scalar(big[:9])})
		emit.Emit(mapOf(under(big, quoted(big))))
		if e != api.OK || f != api.OK {
			t.Fatal(e, f)
		}
		kept = append(kept, one, two, emit.Join(big[:5]), emit.Join("", big[:5], ""))
	}
	if more := heap() - before; more > 1<<20 {
		t.Errorf("%d bytes more are kept", more)
	}
	runtime.KeepAlive(kept)
}
