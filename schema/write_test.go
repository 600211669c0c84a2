package schema_test

import (
	"fmt"
	"math"
	"slices"
	"strings"
	"testing"

	"turnpike/api"
	"turnpike/schema"
)

// sameTree: whether two lists have the same nodes, whatever their Lines are.
func sameTree(a, b []api.Node) bool {
	return slices.EqualFunc(a, b, func(x, y api.Node) bool {
		return x.Kind == y.Kind && x.Key == y.Key && x.Text == y.Text && x.Quoted == y.Quoted && slices.Equal(x.Kids, y.Kids)
	})
}

// told: resources as a message has room for them.
func told(l ...api.Resource) string {
	s := fmt.Sprint(l)
	return s[:min(len(s), 500)]
}

// wantText: the resource may be written, with that text, and its tree is that text's, all Lines 0.
func wantText(t *testing.T, r api.Resource, want string) {
	t.Helper()
	if s, e := schema.Text(r); s != want || e != api.OK {
		t.Errorf("%v: %q, %d, want %q", r, s, int(e), want)
	}
	nodes := schema.Tree(r)
	if !schema.May(r) || !sameTree(nodes, parse(t, want)[0]) {
		t.Errorf("%v: %v, may be %v", r, nodes, schema.May(r))
	}
	if slices.ContainsFunc(nodes, func(n api.Node) bool { return n.Line != 0 }) {
		t.Errorf("%v: a Line that is not 0: %v", r, nodes)
	}
}

// wantNot: the resource may not be written.
func wantNot(t *testing.T, r api.Resource) {
	t.Helper()
	if schema.May(r) || len(schema.Tree(r)) != 0 {
		t.Errorf("%s may be written: %v", told(r), schema.Tree(r))
	}
	for _, l := range [][]api.Resource{{r}, {service("a"), r}, {r, service("a")}} {
		if s, e := schema.Text(l...); s != "" || e != api.ErrValue {
			t.Errorf("%s: %.300q, %d", told(l...), s, int(e))
		}
	}
}

// P12.2: the tree of each kind, node by node.
func TestTree(t *testing.T) {
	text := func(key, s string) api.Node { return api.Node{Kind: api.Scalar, Key: key, Text: s} }
	quoted := func(key, s string) api.Node { return api.Node{Kind: api.Scalar, Key: key, Text: s, Quoted: true} }
	for _, x := range []struct {
		r    api.Resource
		tree []api.Node
	}{
		{service("web"), []api.Node{{Kind: api.Map, Kids: []int{1, 2}}, text("kind", "Service"), text("name", "web")}},
		{service("web", "e1", "-"), []api.Node{{Kind: api.Map, Kids: []int{1, 2, 3}}, text("kind", "Service"), text("name", "web"), {Kind: api.Seq, Key: "endpoints", Kids: []int{4, 5}}, text("", "e1"), quoted("", "-")}},
		{split("s", api.Target{Service: "w", Weight: 0.5}, api.Target{Split: "t", Weight: 99}), []api.Node{{Kind: api.Map, Kids: []int{1, 2, 3}}, text("kind", "Split"), text("name", "s"), {Kind: api.Seq, Key: "targets", Kids: []int{4, 7}},
			{Kind: api.Map, Kids: []int{5, 6}}, text("service", "w"), text("weight", "0.5"), {Kind: api.Map, Kids: []int{8, 9}}, text("split", "t"), text("weight", "99")}},
		{route("r", "*.b", api.Rule{Path: "/a*", Method: "*", Split: "s"}), []api.Node{{Kind: api.Map, Kids: []int{1, 2, 3, 4}}, text("kind", "Route"), text("name", "r"), quoted("host", "*.b"), {Kind: api.Seq, Key: "rules", Kids: []int{5}},
			{Kind: api.Map, Kids: []int{6, 7, 8}}, text("path", "/a*"), quoted("method", "*"), text("split", "s")}},
		{policy("p", "r", api.Rule{Path: "*", Method: "GET", Allow: true}), []api.Node{{Kind: api.Map, Kids: []int{1, 2, 3, 4}}, text("kind", "Policy"), text("name", "p"), text("route", "r"), {Kind: api.Seq, Key: "rules", Kids: []int{5}},
			{Kind: api.Map, Kids: []int{6, 7, 8}}, text("action", "allow"), quoted("path", "*"), text("method", "GET")}},
		{api.Resource{Kind: api.Policy, Name: "p", Delete: true}, []api.Node{{Kind: api.Map, Kids: []int{1, 2, 3}}, text("kind", "Policy"), text("name", "p"), text("delete", "true")}},
	} {
		if got := schema.Tree(x.r); !sameTree(got, x.tree) || !schema.May(x.r) {
			t.Errorf("%v: %v, want %v", x.r, got, x.tree)
		}
	}
}

// P12.2, P12.3: the one text of each kind; texts are quoted just where they may not stand plain.
func TestTexts(t *testing.T) {
	wantText(t, service("5"), "kind: Service\nname: 5\n")
	wantText(t, service("---", "-", "--", "true", "-a", ".", "null"), "kind: Service\nname: \"---\"\nendpoints:\n  - \"-\"\n  - --\n  - true\n  - -a\n  - .\n  - null\n")
	wantText(t, api.Resource{Kind: api.Service, Name: "a", Endpoints: []string{}, Targets: []api.Target{}, Rules: []api.Rule{}}, "kind: Service\nname: a\n")
	wantText(t, route("r", "a.b", api.Rule{Path: "/a:", Method: "GET", Split: "-"}, api.Rule{Path: "/a#\"\\:b", Method: "*", Split: "s"}), "kind: Route\nname: r\nhost: a.b\nrules:\n  - path: \"/a:\"\n    method: GET\n    split: \"-\"\n  - path: /a#\"\\:b\n    method: \"*\"\n    split: s\n")
	wantText(t, route("r", "*", api.Rule{Path: "*", Method: "*", Split: "s"}), "kind: Route\nname: r\nhost: \"*\"\nrules:\n  - path: \"*\"\n    method: \"*\"\n    split: s\n")
	wantText(t, policy("p", "r", api.Rule{Path: "/", Method: "X", Allow: true}, api.Rule{Path: "/\":", Method: "*"}), "kind: Policy\nname: p\nroute: r\nrules:\n  - action: allow\n    path: /\n    method: X\n  - action: deny\n    path: \"/\\\":\"\n    method: \"*\"\n")
	for kind, name := range []string{"", "Service", "Split", "Route", "Policy"} {
		if kind > 0 {
			wantText(t, api.Resource{Kind: kind, Name: "x", Delete: true}, "kind: "+name+"\nname: x\ndelete: true\n")
		}
	}
}

// P12.2: weights: of whole numbers their digits, of others layer 11's text; -0 is 0; what layer 11 can't tell may not be.
func TestWeightsWritten(t *testing.T) {
	for w, want := range map[float64]string{0: "0", 1: "1", 10: "10", 100: "100", 0.5: "0.5", 33.3: "33.3", 99.9999999999999: "99.9999999999999", 1e-22: "0.0000000000000000000001", 1.5e-7: "0.00000015", 0.1: "0.1"} {
		wantText(t, split("s", api.Target{Service: "w", Weight: w}), "kind: Split\nname: s\ntargets:\n  - service: w\n    weight: "+want+"\n")
	}
	wantText(t, split("s", api.Target{Split: "w", Weight: math.Copysign(0, -1)}), "kind: Split\nname: s\ntargets:\n  - split: w\n    weight: 0\n")
	for _, w := range []float64{-1, 101, math.Nextafter(100, 200), -1e-22, math.NaN(), math.Inf(1), math.Inf(-1), math.MaxFloat64, 5e-324, 1e-23, 1.0 / 3, 100.0 / 3, math.Nextafter(100, 0), math.Nextafter(0.1, 1), 1 << 62, 1 << 63, -(1 << 63)} {
		wantNot(t, split("s", api.Target{Service: "w", Weight: w}))
		wantNot(t, split("s", api.Target{Service: "w", Weight: 1}, api.Target{Split: "w", Weight: w}))
	}
}

// P12.2: what no document says: fields of other kinds, and fields that are not what they must be.
func TestWhatMayNotBe(t *testing.T) {
	for _, kind := range []int{0, 5, 9, -1, -4, math.MaxInt, math.MinInt} {
		wantNot(t, api.Resource{Kind: kind, Name: "a"})
		wantNot(t, api.Resource{Kind: kind, Name: "a", Delete: true})
	}
	target, allowed, routed := api.Target{Service: "w", Weight: 1}, api.Rule{Path: "/", Method: "*", Allow: true}, api.Rule{Path: "/", Method: "*", Split: "s"}
	for _, r := range []api.Resource{
		service("a"), service("a", "b"), split("a", target), route("a", "h", routed), policy("a", "r", allowed),
		{Kind: api.Service, Name: "a", Delete: true}, {Kind: api.Split, Name: "a", Delete: true}, {Kind: api.Route, Name: "a", Delete: true}, {Kind: api.Policy, Name: "a", Delete: true},
	} {
		if !schema.May(r) {
			t.Fatalf("%v may not be", r)
		}
		changes := []func(r *api.Resource){func(r *api.Resource) { r.Name = "" }, func(r *api.Resource) { r.Name = "a b" }, func(r *api.Resource) { r.Name = strings.Repeat("n", 65) }, func(r *api.Resource) { r.Kind = 0 }}
		if r.Kind != api.Service || r.Delete {
			changes = append(changes, func(r *api.Resource) { r.Endpoints = []string{"e"} })
		}
		if r.Kind != api.Split || r.Delete {
			changes = append(changes, func(r *api.Resource) { r.Targets = []api.Target{target} })
		}
		if r.Kind != api.Route || r.Delete {
			changes = append(changes, func(r *api.Resource) { r.Host = "h" })
		}
		if r.Kind != api.Policy || r.Delete {
			changes = append(changes, func(r *api.Resource) { r.Route = "r" }, func(r *api.Resource) { r.Rules = []api.Rule{allowed} })
		}
		if r.Kind != api.Route || r.Delete {
			changes = append(changes, func(r *api.Resource) { r.Rules = []api.Rule{routed} })
		}
		if !r.Delete && len(r.Endpoints)+len(r.Targets)+len(r.Rules) > 0 {
			changes = append(changes, func(r *api.Resource) { r.Delete = true })
		}
		for _, change := range changes {
			spoilt := r
			change(&spoilt)
			wantNot(t, spoilt)
		}
	}
}

// P12.2: lists that are empty or too long, and what stands in them.
func TestListsThatMayNotBe(t *testing.T) {
	target, allowed, routed := api.Target{Service: "w", Weight: 1}, api.Rule{Path: "/", Method: "*", Allow: true}, api.Rule{Path: "/", Method: "*", Split: "s"}
	var names []string
	for i := range 17 {
		names = append(names, string(rune('a'+i)))
	}
	for n := range 100 {
		if schema.May(split("s", slices.Repeat([]api.Target{target}, n)...)) != (n >= 1 && n <= 8) || schema.May(route("r", "h", slices.Repeat([]api.Rule{routed}, n)...)) != (n >= 1 && n <= 16) || schema.May(policy("r", "h", slices.Repeat([]api.Rule{allowed}, n)...)) != (n >= 1 && n <= 16) {
			t.Errorf("%d in a list", n)
		}
	}
	if !schema.May(service("s", names[:16]...)) {
		t.Error("sixteen endpoints")
	}
	for _, l := range [][]string{names, {""}, {"a", ""}, {"a b"}, {"a", "b", "a"}, slices.Repeat([]string{"a"}, 1<<20)} {
		wantNot(t, service("s", l...))
	}
	for _, x := range []api.Target{{}, {Weight: 1}, {Service: "a", Split: "b", Weight: 1}, {Service: "a", Split: "a", Weight: 1}, {Service: "a b", Weight: 1}, {Split: "a b", Weight: 1}, {Service: strings.Repeat("n", 65)}} {
		wantNot(t, split("s", x))
		wantNot(t, split("s", target, x))
	}
	for _, x := range []api.Rule{{}, {Path: "/", Method: "", Split: "s"}, {Path: "", Method: "*", Split: "s"}, {Path: "/", Method: "*", Split: ""}, {Path: "/", Method: "*", Split: "s", Allow: true}, {Path: "a", Method: "*", Split: "s"}, {Path: "/", Method: "get", Split: "s"}, {Path: "/", Method: "GET", Split: "s "}, {Path: "/" + strings.Repeat("p", 256), Method: "*", Split: "s"}, {Path: "/" + strings.Repeat("p", 256) + "*", Method: "*", Split: "s"}} {
		wantNot(t, route("r", "h", x))
		wantNot(t, route("r", "h", routed, x))
	}
	for _, x := range []api.Rule{{}, {Path: "/", Method: ""}, {Path: "", Method: "*", Allow: true}, {Path: "a", Method: "*"}, {Path: "/", Method: "get"}, {Path: "/", Method: "*", Split: "s"}, {Path: "/", Method: "*", Split: "s", Allow: true}, {Path: "/" + strings.Repeat("p", 256), Method: "*"}} {
		wantNot(t, policy("p", "r", x))
		wantNot(t, policy("p", "r", allowed, x))
	}
	for _, host := range []string{"", "A", "*.B", "a.B", "a_b", "*.", "**", "*a", "a b", "*." + strings.Repeat("h", 65)} {
		wantNot(t, route("r", host, routed))
	}
	for _, name := range []string{"", "*", "a b", strings.Repeat("n", 65)} {
		wantNot(t, policy("p", name, allowed))
	}
	path := "/" + strings.Repeat("p", 255)
	if !schema.May(route("r", "*."+strings.Repeat("h", 64), api.Rule{Path: path, Method: strings.Repeat("M", 64), Split: strings.Repeat("s", 64)})) || !schema.May(policy("r", "h", api.Rule{Path: path + "*", Method: "*"})) {
		t.Error("the longest texts")
	}
}

// P0.1: texts and lists that are far too long.
func TestFarTooLong(t *testing.T) {
	s := strings.Repeat("x", 1<<24)
	wantNot(t, service(s, s, s))
	wantNot(t, route(s, s, slices.Repeat([]api.Rule{{Path: "/" + s, Method: s, Split: s}}, 1<<16)...))
	wantNot(t, split("s", slices.Repeat([]api.Target{{Service: s, Split: s, Weight: 1}}, 1<<16)...))
}

// P12.3: texts of several, joined; of none no text.
func TestTextOfSeveral(t *testing.T) {
	for _, l := range [][]api.Resource{nil, {}} {
		if s, e := schema.Text(l...); s != "" || e != api.OK {
			t.Errorf("of none: %q, %d", s, int(e))
		}
	}
	s, e := schema.Text(service("b"), api.Resource{Kind: api.Route, Name: "a", Delete: true}, service("b"))
	if want := "kind: Service\nname: b\n---\nkind: Route\nname: a\ndelete: true\n---\nkind: Service\nname: b\n"; s != want || e != api.OK {
		t.Errorf("%q, %d", s, int(e))
	}
}

// P12.3: at most MaxText bytes; one that may not be written comes ahead of that, wherever it stands.
func TestTextsThatAreLong(t *testing.T) {
	const one = len("kind: Service\nname: x\n---\n")
	for n := api.MaxText/one - 2; n <= api.MaxText/one; n++ {
		for _, pad := range []int{1, 20, 21, 22, 23, 46, 47, 48, 49, 64} {
			l := slices.Repeat([]api.Resource{service("x")}, n)
			l = append(l, service(strings.Repeat("x", pad)))
			size := n*one + len("kind: Service\nname: \n") + pad
			s, e := schema.Text(l...)
			if size <= api.MaxText && (len(s) != size || e != api.OK) || size > api.MaxText && (s != "" || e != api.ErrLong) {
				t.Fatalf("%d bytes: %d, %d", size, len(s), int(e))
			}
		}
	}
	l := slices.Repeat([]api.Resource{service("x")}, 20000)
	if s, e := schema.Text(l...); s != "" || e != api.ErrLong {
		t.Errorf("many: %d bytes, %d", len(s), int(e))
	}
	for _, at := range []int{0, 100, 2520, 2521, 2522, 19999} {
		spoilt := slices.Clone(l)
		spoilt[at].Name = ""
		if s, e := schema.Text(spoilt...); s != "" || e != api.ErrValue {
			t.Errorf("many, the one at %d wrong: %d bytes, %d", at, len(s), int(e))
		}
	}
}
