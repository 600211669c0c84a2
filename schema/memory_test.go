package schema_test

import (
	"math/rand"
	"runtime"
	"slices"
	"strings"
	"testing"
	"unsafe"

	"turnpike/api"
	"turnpike/schema"
	"turnpike/spare"
)

// loose: a text in memory that the test may change.
func loose(s string) (string, []byte) {
	b := []byte(s)
	return unsafe.String(unsafe.SliceData(b), len(b)), b
}

// given is what a caller hands in, in memory that the test may look at and change.
type given struct {
	texts [][]byte
	over  []func()      // each changes a list that was handed in
	kept  []func() bool // each tells whether a list, and the room behind it, is still as it was
}

func (g *given) text(s string) string {
	s, b := loose(s)
	g.texts = append(g.texts, b)
	return s
}

// hand: a list of the same elements with spare room behind it, x in each place.
func hand[T any](g *given, l []T, x T, isSame func(a, b T) bool) []T {
	list, whole := spare.List(l, x)
	was := slices.Clone(whole)
	g.kept = append(g.kept, func() bool { return slices.EqualFunc(whole, was, isSame) })
	g.over = append(g.over, func() { spare.Fill(list, x) })
	return list
}

func (g *given) wantUntouched(t *testing.T) {
	t.Helper()
	for _, isKept := range g.kept {
		if !isKept() {
			t.Fatal("something that was handed in was changed")
		}
	}
}

func (g *given) overwrite() {
	for _, b := range g.texts {
		spare.Fill(b, '!')
	}
	for _, change := range g.over {
		change()
	}
}

func is[T comparable](a, b T) bool { return a == b }

func isNode(a, b api.Node) bool {
	return a.Kind == b.Kind && a.Key == b.Key && a.Text == b.Text && a.Quoted == b.Quoted && a.Line == b.Line && slices.Equal(a.Kids, b.Kids)
}

func (g *given) tree(l []api.Node) []api.Node {
	var own []api.Node
	for _, n := range l {
		n.Key, n.Text, n.Kids = g.text(n.Key), g.text(n.Text), hand(g, n.Kids, 1, is)
		own = append(own, n)
	}
	return hand(g, own, api.Node{Kind: api.Scalar, Key: "spare"}, isNode)
}

func (g *given) resource(r api.Resource) api.Resource {
	var names []string
	for _, name := range r.Endpoints {
		names = append(names, g.text(name))
	}
	targets, rules := slices.Clone(r.Targets), slices.Clone(r.Rules)
	for i, x := range targets {
		targets[i].Service, targets[i].Split = g.text(x.Service), g.text(x.Split)
	}
	for i, x := range rules {
		rules[i].Path, rules[i].Method, rules[i].Split = g.text(x.Path), g.text(x.Method), g.text(x.Split)
	}
	r.Name, r.Host, r.Route = g.text(r.Name), g.text(r.Host), g.text(r.Route)
	r.Endpoints, r.Targets, r.Rules = hand(g, names, "spare", is), hand(g, targets, api.Target{Split: "spare"}, is), hand(g, rules, api.Rule{Path: "spare"}, is)
	return r
}

// copied: resources in memory of their own.
func copied(l []api.Resource) []api.Resource {
	l = slices.Clone(l)
	for i := range l {
		var g given
		l[i] = g.resource(l[i])
	}
	return l
}

// P12.5: trees are neither changed nor kept.
func TestTreesAreNeitherChangedNorKept(t *testing.T) {
	r := rand.New(rand.NewSource(6))
	for range 2000 {
		var g given
		var docs [][]api.Node
		for range 1 + r.Intn(4) {
			p := anyDocument(r)
			if r.Intn(6) == 0 {
				spoil(r, p)
			}
			docs = append(docs, g.tree(nodes(p)))
		}
		docs = hand(&g, docs, nil, func(a, b []api.Node) bool { return slices.EqualFunc(a, b, isNode) })
		got, f := schema.Decode(docs)
		want := copied(got)
		g.wantUntouched(t)
		g.overwrite()
		if !slices.EqualFunc(got, want, equal) {
			t.Fatalf("%v was %v, %v", got, want, f)
		}
	}
}

// P12.5: resources are neither changed nor kept.
func TestResourcesAreNeitherChangedNorKept(t *testing.T) {
	r := rand.New(rand.NewSource(7))
	for range 2000 {
		var g given
		var l []api.Resource
		for range 1 + r.Intn(4) {
			x := anyResource(r)
			if r.Intn(6) == 0 {
				spoilResource(r, &x)
			}
			if areAll(x.Targets, func(x api.Target) bool { return x == x }) { // what is no number is not the same as itself
				l = append(l, g.resource(x))
			}
		}
		l = hand(&g, l, api.Resource{}, equal)
		text, e := schema.Text(l...)
		wantText := strings.Clone(text)
		var trees, wantTrees [][]api.Node
		for _, x := range l {
			var own given
			nodes := schema.Tree(x)
			if (len(nodes) > 0) != schema.May(x) {
				t.Fatalf("%v: %v", x, nodes)
			}
			trees, wantTrees = append(trees, nodes), append(wantTrees, own.tree(nodes))
		}
		g.wantUntouched(t)
		g.overwrite()
		if text != wantText {
			t.Fatalf("%q was %q, %d", text, wantText, int(e))
		}
		for i := range trees {
			if !slices.EqualFunc(trees[i], wantTrees[i], isNode) {
				t.Fatalf("%v was %v", trees[i], wantTrees[i])
			}
		}
	}
}

// wantOwn: each of the lists, written over with the room behind it, changes none that stands behind it.
func wantOwn(t *testing.T, fills []func(), isKept func(from int) bool) {
	t.Helper()
	for i, fill := range fills {
		fill()
		if !isKept(i + 1) {
			t.Fatalf("list %d shares memory with another one", i)
		}
	}
}

// P12.5: each list of an answer is its own, with the room behind it.
func TestListsOfAnswersAreTheirOwn(t *testing.T) {
	r := rand.New(rand.NewSource(8))
	for range 1000 {
		var docs [][]api.Node
		for range 1 + r.Intn(4) {
			docs = append(docs, nodes(anyDocument(r)))
		}
		docs = append(docs, docs[0])
		l, f := schema.Decode(docs)
		if f != (api.Fault{}) {
			t.Fatal(f)
		}
		want := copied(l)
		trees := [][]api.Node{schema.Tree(l[0]), schema.Tree(l[0])}
		wantTree := slices.Clone(trees[1])
		for i := range wantTree {
			wantTree[i].Kids = slices.Clone(wantTree[i].Kids)
		}
		var fills []func()
		for _, x := range l {
			fills = append(fills, func() {
				spare.Fill(x.Endpoints, "!")
				spare.Fill(x.Targets, api.Target{Split: "!"})
				spare.Fill(x.Rules, api.Rule{Path: "!"})
			})
		}
		wantOwn(t, fills, func(from int) bool { return slices.EqualFunc(l[from:], want[from:], equal) })
		fills = nil
		for _, n := range slices.Concat(trees...) {
			fills = append(fills, func() { spare.Fill(n.Kids, -9) })
		}
		wantOwn(t, fills, func(from int) bool {
			from = max(0, from-len(wantTree))
			return slices.EqualFunc(trees[1][from:], wantTree[from:], isNode)
		})
	}
}

func heap() int {
	var m runtime.MemStats
	runtime.GC()
	runtime.GC()
	runtime.ReadMemStats(&m)
	return int(m.HeapAlloc)
}

// P0.4: who keeps a resource or a tree keeps no more than that.
func TestNothingMoreIsKept(t *testing.T) {
	var resources [][]api.Resource
	var trees [][]api.Node
	before := heap()
	for range 100 {
		big := strings.Repeat("x", 60000)
		doc := parse(t, "kind: Service\nname: a\nendpoints:\n  - b\n")[0]
		doc[2].Text, doc[4].Text = big[:3], big[:5]
		l, f := schema.Decode([][]api.Node{doc})
		if f != (api.Fault{}) {
			t.Fatal(f)
		}
		resources = append(resources, l)
		trees = append(trees, schema.Tree(route(big[:4], big[:9], api.Rule{Path: "*", Method: "*", Split: big[:7]})))
		schema.May(service(big, big))
	}
	if more := heap() - before; more > 1<<20 {
		t.Errorf("%d bytes more are kept", more)
	}
	runtime.KeepAlive(resources)
	runtime.KeepAlive(trees)
}
