package schema_test

import (
	"math"
	"slices"
	"strconv"
	"strings"
	"testing"

	"turnpike/api"
	"turnpike/schema"
	"turnpike/tree"
)

// parse: the trees of a text that is right by layer 9.
func parse(t *testing.T, s string) [][]api.Node {
	t.Helper()
	trees, f := tree.Parse([]byte(s))
	if f != (api.Fault{}) {
		t.Fatalf("%.200q: %v", s, f)
	}
	return trees
}

// equal: whether two resources are the same, their weights to the last bit.
func equal(a, b api.Resource) bool {
	weight := func(x, y api.Target) bool {
		return x.Service == y.Service && x.Split == y.Split && math.Float64bits(x.Weight) == math.Float64bits(y.Weight)
	}
	return a.Kind == b.Kind && a.Name == b.Name && a.Host == b.Host && a.Route == b.Route && a.Delete == b.Delete &&
		slices.Equal(a.Endpoints, b.Endpoints) && slices.EqualFunc(a.Targets, b.Targets, weight) && slices.Equal(a.Rules, b.Rules)
}

// wantSaid: the text's documents say these resources.
func wantSaid(t *testing.T, s string, want ...api.Resource) {
	t.Helper()
	got, f := schema.Decode(parse(t, s))
	if f != (api.Fault{}) || !slices.EqualFunc(got, want, equal) {
		t.Errorf("%.300q: %v, %v, want %v", s, got, f, want)
	}
}

// wantFault: the text's documents are refused, with no resources.
func wantFault(t *testing.T, s string, doc, line int, e api.Errno) {
	t.Helper()
	got, f := schema.Decode(parse(t, s))
	if f != (api.Fault{Doc: doc, Line: line, Err: e}) || len(got) != 0 {
		t.Errorf("%.300q: %v, %v, want %d, %d, %d", s, got, f, doc, line, int(e))
	}
}

func service(name string, endpoints ...string) api.Resource {
	return api.Resource{Kind: api.Service, Name: name, Endpoints: endpoints}
}

func split(name string, targets ...api.Target) api.Resource {
	return api.Resource{Kind: api.Split, Name: name, Targets: targets}
}

func route(name, host string, rules ...api.Rule) api.Resource {
	return api.Resource{Kind: api.Route, Name: name, Host: host, Rules: rules}
}

func policy(name, route string, rules ...api.Rule) api.Resource {
	return api.Resource{Kind: api.Policy, Name: name, Route: route, Rules: rules}
}

// P12.1: the chapter's examples.
func TestExamples(t *testing.T) {
	wantSaid(t, "kind: Service\nname: web\nendpoints:\n  - e1\n", service("web", "e1"))
	wantSaid(t, "kind: Split\nname: s\ntargets:\n  - service: web\n    weight: 100.0\n", split("s", api.Target{Service: "web", Weight: 100}))
	wantSaid(t, "kind: Route\nname: r\nhost: \"*.B\"\nrules:\n  - path: /a*\n    split: s\n", route("r", "*.b", api.Rule{Path: "/a*", Method: "*", Split: "s"}))
	wantFault(t, "name: x\n", 0, 1, api.ErrMissing)
	wantFault(t, "kind: Servic\nname: x\n", 0, 1, api.ErrKind)
	wantFault(t, "kind: Service\n", 0, 1, api.ErrMissing)
	wantFault(t, "kind: Service\nname: x\nport: 5\n", 0, 3, api.ErrField)
	wantFault(t, "- a\n", 0, 1, api.ErrValue)
	for _, w := range []string{".nan", "\"5\"", "-1", "100.5"} {
		wantFault(t, "kind: Split\nname: s\ntargets:\n  - service: web\n    weight: "+w+"\n", 0, 5, api.ErrValue)
	}
	wantSaid(t, "kind: Split\nname: s\ndelete: true\n", api.Resource{Kind: api.Split, Name: "s", Delete: true})
	wantFault(t, "kind: Split\nname: s\ndelete: yes\n", 0, 3, api.ErrValue)
}

// P12.1: no documents, and several, in their order; the number of the one that is wrong.
func TestSeveralDocuments(t *testing.T) {
	for _, docs := range [][][]api.Node{nil, {}} {
		if got, f := schema.Decode(docs); len(got) != 0 || f != (api.Fault{}) {
			t.Errorf("of none: %v, %v", got, f)
		}
	}
	wantSaid(t, "kind: Service\nname: b\n---\nkind: Service\nname: a\n---\nkind: Service\nname: b\n", service("b"), service("a"), service("b"))
	wantFault(t, "kind: Service\nname: b\n---\nkind: Service\nname: a b\n---\nkind: Servic\nname: b\n", 1, 5, api.ErrValue)
	wantFault(t, "kind: Service\nname: b\n---\nkind: Service\nname: a\n---\nx\n", 2, 7, api.ErrValue)
	many := strings.Repeat("kind: Service\nname: b\n---\n", 1000)
	if got, f := schema.Decode(parse(t, many)); len(got) != 1000 || f != (api.Fault{}) {
		t.Errorf("a thousand: %d, %v", len(got), f)
	}
	wantFault(t, many+"kind: x\n", 1000, 3001, api.ErrKind)
}

// P12.1: fields in whatever order, quoted or not, with keys that are quoted, too.
func TestHowFieldsAreWritten(t *testing.T) {
	wantSaid(t, "endpoints:\n- \"e1\"\n- 'e2'\nname: '5'\n\"kind\": \"Service\"\n", service("5", "e1", "e2"))
	wantSaid(t, "name: true\nkind: Service\n", service("true"))
	wantSaid(t, "name: ---x\nkind: Service\nendpoints:\n  - '---'\n  - null\n  - 1.5\n", service("---x", "---", "null", "1.5"))
	wantSaid(t, "delete: true\nname: n\nkind: 'Policy'\n", api.Resource{Kind: api.Policy, Name: "n", Delete: true})
	wantSaid(t, "rules:\n  - split: 's'\n    method: '*'\n    path: \"/a\\\\\"\n  - path: '*'\n    split: t\n    method: GET\nhost: '*'\nname: r\nkind: Route\n",
		route("r", "*", api.Rule{Path: "/a\\", Method: "*", Split: "s"}, api.Rule{Path: "*", Method: "GET", Split: "t"}))
	wantSaid(t, "rules:\n  - method: '*'\n    path: /\n    action: allow\n  - path: '*'\n    action: 'deny'\nroute: r\nname: p\nkind: Policy\n",
		policy("p", "r", api.Rule{Path: "/", Method: "*", Allow: true}, api.Rule{Path: "*", Method: "*"}))
	wantSaid(t, "kind: Split\nname: s\ntargets:\n  - weight: 5\n    split: t\n  - weight: 95\n    service: w\n", split("s", api.Target{Split: "t", Weight: 5}, api.Target{Service: "w", Weight: 95}))
}

// P12.1: hosts are kept folded, all else as it is.
func TestFolded(t *testing.T) {
	rest := "\nrules:\n  - path: /A*\n    split: S\n"
	for host, want := range map[string]string{"A": "a", "Shop.Example": "shop.example", "\"*.A-Z.09\"": "*.a-z.09", "\"*\"": "*", "z": "z"} {
		wantSaid(t, "kind: Route\nname: R\nhost: "+host+rest, route("R", want, api.Rule{Path: "/A*", Method: "*", Split: "S"}))
	}
	wantSaid(t, "kind: Service\nname: Web\nendpoints:\n  - E\n  - e\n", service("Web", "E", "e"))
}

// P12.1: weights as layer 11 reads them; -0 is 0.
func TestWeights(t *testing.T) {
	text := func(w string) string {
		return "kind: Split\nname: s\ntargets:\n  - service: web\n    weight: " + w + "\n"
	}
	for w, want := range map[string]float64{"0": 0, "-0.0": 0, "-0.0e5": 0, "0.0": 0, "1": 1, "100": 100, "100.0": 100, "1.0e2": 100, "0.1": 0.1, "99.9999999999999": 99.9999999999999, "1.0e-21": 1e-21, "33.3": 33.3, "0.0000000000000000000001": 1e-22} {
		wantSaid(t, text(w), split("s", api.Target{Service: "web", Weight: want}))
	}
	for _, w := range []string{"-1", "101", "100.0000000001", "-0.0000001", ".inf", "-.inf", ".nan", "~", "", "''", "\"100\"", "'0'", "true", "1e1", "-0", "007", "+5", "5.", ".5", "9223372036854775807", "-9223372036854775808", "1.0e3", "5 5", "0x5", "1.000000000000000"} {
		wantFault(t, text(w), 0, 5, api.ErrValue)
	}
}

// items: so many lines of a sequence, each with its number where the text has an @.
func items(n int, text string) string {
	var b strings.Builder
	for i := range n {
		b.WriteString(strings.ReplaceAll(text, "@", strconv.Itoa(i)))
	}
	return b.String()
}

// P12.1: as many as may be, and one more; a name's, a host's, a path's and a method's bytes.
func TestBounds(t *testing.T) {
	for _, x := range []struct {
		text, item string
		most       int
	}{
		{"kind: Service\nname: x\nendpoints:\n", "  - e@\n", api.MaxEndpoints},
		{"kind: Split\nname: x\ntargets:\n", "  - service: e@\n    weight: 1\n", api.MaxTargets},
		{"kind: Route\nname: x\nhost: h\nrules:\n", "  - path: /@\n    split: s\n", api.MaxRules},
		{"kind: Policy\nname: x\nroute: h\nrules:\n", "  - path: /@\n    action: deny\n", api.MaxRules},
	} {
		for n := 1; n <= x.most; n++ {
			got, f := schema.Decode(parse(t, x.text+items(n, x.item)))
			if f != (api.Fault{}) || len(got[0].Endpoints)+len(got[0].Targets)+len(got[0].Rules) != n {
				t.Errorf("%d of %q: %v", n, x.item, f)
			}
		}
		line := 1 + strings.Count(x.text, "\n")
		wantFault(t, x.text+items(x.most+1, x.item), 0, line, api.ErrCount)
		wantFault(t, x.text+items(x.most+1, "  - a b\n"), 0, line, api.ErrCount)
		wantFault(t, x.text+items(1000, x.item), 0, line, api.ErrCount)
	}
	name, path := strings.Repeat("n", 64), "/"+strings.Repeat("p", 255)
	wantSaid(t, "kind: Service\nname: "+name+"\n", service(name))
	wantFault(t, "kind: Service\nname: "+name+"n\n", 0, 2, api.ErrValue)
	rule := api.Rule{Path: path + "*", Method: strings.ToUpper(name), Split: name}
	wantSaid(t, "kind: Route\nname: r\nhost: '*."+name+"'\nrules:\n- path: "+path+"*\n  method: "+rule.Method+"\n  split: "+name+"\n", route("r", "*."+name, rule))
	wantFault(t, "kind: Route\nname: r\nhost: '*."+name+"n'\nrules:\n- path: "+path+"\n  split: "+name+"\n", 0, 3, api.ErrValue)
	wantFault(t, "kind: Route\nname: r\nhost: h\nrules:\n- path: "+path+"p\n  split: "+name+"\n", 0, 5, api.ErrValue)
	wantFault(t, "kind: Route\nname: r\nhost: h\nrules:\n- path: /\n  method: "+rule.Method+"N\n  split: "+name+"\n", 0, 6, api.ErrValue)
}
