package schema_test

import (
	"strings"
	"testing"

	"turnpike/api"
	"turnpike/schema"
)

// P12.1: lists that layer 10 does not take as trees.
func TestNoTrees(t *testing.T) {
	good := parse(t, "kind: Service\nname: web\nendpoints:\n  - e1\n")[0]
	twice := func(change func(l []api.Node)) []api.Node {
		l := parse(t, "kind: Service\nname: web\nendpoints:\n  - e1\n")[0]
		change(l)
		return l
	}
	for i, l := range [][]api.Node{
		nil, {}, {{}}, {{Kind: api.Map, Line: 7}}, {{Kind: api.Seq, Line: 7}}, {{Kind: 4, Line: 7}}, {{Kind: api.Scalar, Key: "k", Line: 7}}, {{Kind: api.Scalar, Text: "*", Line: 7}},
		append(parse(t, "kind: Service\n")[0], api.Node{Kind: api.Scalar}),
		twice(func(l []api.Node) { l[0].Kids[0] = 2 }), twice(func(l []api.Node) { l[0].Kids[2] = -1 }), twice(func(l []api.Node) { l[0].Kids[2] = 1 << 60 }),
		twice(func(l []api.Node) { l[2].Key = "kind" }), twice(func(l []api.Node) { l[4].Key = "x" }), twice(func(l []api.Node) { l[3].Text = "x" }), twice(func(l []api.Node) { l[3].Kids[0] = 0 }),
		twice(func(l []api.Node) { l[1].Text = "Servic: e" }), twice(func(l []api.Node) { l[3].Kids = nil }), parse(t, "kind: x\nname: y\n")[0][1:],
	} {
		for _, docs := range [][][]api.Node{{l}, {good, l}, {good, good, l, good}} {
			doc := min(len(docs)-1, 2)
			if got, f := schema.Decode(docs); len(got) != 0 || f != (api.Fault{Doc: doc, Err: api.ErrEmit}) {
				t.Errorf("%d: %v, %v", i, got, f)
			}
		}
	}
}

// P12.1: trees as layer 10 takes them: their nodes may stand in another order, with whatever Lines, and their text may be too long.
func TestTreesOfLayerTen(t *testing.T) {
	l := []api.Node{
		{Kind: api.Map, Line: -3, Kids: []int{2, 3, 4}}, {Kind: api.Scalar, Text: "e1", Line: -9}, {Kind: api.Seq, Key: "endpoints", Line: 0, Kids: []int{5, 6}},
		{Kind: api.Scalar, Key: "name", Text: "web", Line: 1 << 40}, {Kind: api.Scalar, Key: "kind", Text: "Service", Line: 5}, {Kind: api.Scalar, Text: "e2", Line: -7}, {Kind: api.Scalar, Text: "e3"},
	}
	if _, f := schema.Decode([][]api.Node{l}); f != (api.Fault{Err: api.ErrEmit}) {
		t.Errorf("a node that is nobody's: %v", f)
	}
	l[0].Kids, l[2].Kids = []int{1, 2, 3}, []int{4, 5}
	l[1], l[4] = l[4], l[1]
	l = l[:6]
	if got, f := schema.Decode([][]api.Node{l}); f != (api.Fault{}) || len(got) != 1 || !equal(got[0], service("web", "e1", "e2")) {
		t.Errorf("%v, %v", got, f)
	}
	l[5].Text = "e 2"
	if _, f := schema.Decode([][]api.Node{l}); f != (api.Fault{Line: -7, Err: api.ErrValue}) {
		t.Errorf("a Line below 0: %v", f)
	}
	l[0].Kids, l[1].Key = []int{1, 2, 3}, "knd"
	if _, f := schema.Decode([][]api.Node{l}); f != (api.Fault{Line: -3, Err: api.ErrMissing}) {
		t.Errorf("a root's Line below 0: %v", f)
	}
	long := parse(t, "kind: Service\nname: web\n")[0]
	long[2].Text = strings.Repeat("x", 1<<20)
	if _, f := schema.Decode([][]api.Node{long}); f != (api.Fault{Line: 2, Err: api.ErrValue}) {
		t.Errorf("a name that is far too long: %v", f)
	}
	long[2].Text, long[2].Key = "web", strings.Repeat("x", 1<<20)
	if _, f := schema.Decode([][]api.Node{long}); f != (api.Fault{Line: 1, Err: api.ErrMissing}) {
		t.Errorf("a key that is far too long: %v", f)
	}
}

// P12.1: what is wrong with a document as a whole, and what comes first of it.
func TestFaultsOfDocuments(t *testing.T) {
	wantFault(t, "x\n", 0, 1, api.ErrValue)
	wantFault(t, "\n''\n", 0, 2, api.ErrValue)
	wantFault(t, "\n\n- kind: Service\n  name: x\n", 0, 3, api.ErrValue)
	wantFault(t, "\n\nx: y\n", 0, 3, api.ErrMissing)
	wantFault(t, "\nKind: Service\nname: x\n", 0, 2, api.ErrMissing)
	for _, kind := range []string{"", "''", "service", "Services", "Servic", "1", "*x", "Service Split", "Service\\n"} {
		wantFault(t, "name: a b\nkind: \""+kind+"\"\nx: y\n", 0, 2, api.ErrKind)
	}
	wantFault(t, "name: x\nkind:\n", 0, 2, api.ErrKind)
	wantFault(t, "name: x\nkind:\n  - Service\n", 0, 3, api.ErrKind)
	wantFault(t, "name: x\nkind:\n\n  Service: Service\n", 0, 4, api.ErrKind)
	wantFault(t, "x: y\nkind: Service\ndelete: no\n", 0, 1, api.ErrMissing)
	for _, name := range []string{"", "''", "a b", "a/b", "\"a\\n\"", "\u00e9", strings.Repeat("n", 65), "\n  - x", "\n    x: y"} {
		wantFault(t, "port: 5\nkind: Service\ndelete: no\nname: "+name+"\n", 0, 4+strings.Count(name, "\n"), api.ErrValue)
	}
}

// P12.1: documents that delete.
func TestFaultsOfDeletes(t *testing.T) {
	for number, kind := range []string{"Service", "Split", "Route", "Policy"} {
		head := "kind: " + kind + "\nname: x\n"
		wantSaid(t, head+"delete: true\n", api.Resource{Kind: number + 1, Name: "x", Delete: true})
		for _, value := range []string{"false", "True", "'true'", "\"true\"", "", "''", "1", "~", "\n  - true", "\n  true: true"} {
			wantFault(t, head+"x: y\ndelete: "+value+"\n", 0, 4+strings.Count(value, "\n"), api.ErrValue)
		}
		for _, field := range []string{"endpoints", "targets", "host", "rules", "route", "x", "\"\"", "Delete"} {
			wantFault(t, head+"delete: true\n"+field+": x\nz: y\n", 0, 4, api.ErrField)
			wantFault(t, field+": x\nz: y\n"+head+"delete: true\n", 0, 1, api.ErrField)
		}
	}
}

// P12.1: fields that are none of the kind's come ahead of what is wrong with, or missing of, those that are.
func TestFieldsOfKinds(t *testing.T) {
	for kind, own := range map[string]string{"Service": " kind name endpoints ", "Split": " kind name targets ", "Route": " kind name host rules ", "Policy": " kind name route rules "} {
		for _, field := range []string{"endpoints", "targets", "host", "rules", "route", "service", "split", "weight", "path", "method", "action", "port", "Kind", "\"\"", "\"kind \""} {
			text := "kind: " + kind + "\nname: x\n" + field + ":\n  x: y\n"
			if !strings.Contains(own, " "+field+" ") {
				wantFault(t, text+"z: y\n", 0, 4, api.ErrField)
			} else {
				wantFault(t, text+"z: y\n", 0, 5, api.ErrField)
			}
		}
	}
}

// P12.1: services.
func TestFaultsOfServices(t *testing.T) {
	head := "kind: Service\nname: x\nendpoints:"
	wantFault(t, head+"\n", 0, 3, api.ErrValue)
	wantFault(t, head+" a\n", 0, 3, api.ErrValue)
	wantFault(t, head+" '[]'\n", 0, 3, api.ErrValue)
	wantFault(t, head+"\n  a: b\n", 0, 4, api.ErrValue)
	wantFault(t, head+"\n  - a\n  - b\n  - a b\n  - a\n", 0, 6, api.ErrValue)
	wantFault(t, head+"\n  - a\n  - b\n  - 'a'\n  - a b\n", 0, 6, api.ErrTwice)
	wantFault(t, head+"\n  - a\n  -\n", 0, 5, api.ErrValue)
	wantFault(t, head+"\n  -\n  -\n", 0, 4, api.ErrValue)
	wantFault(t, head+"\n  - a\n  - - b\n", 0, 5, api.ErrValue)
	wantFault(t, head+"\n  - a\n  -\n    b: c\n", 0, 6, api.ErrValue)
	wantSaid(t, head+"\n  - a\n  - A\n  - a-\n", service("x", "a", "A", "a-"))
}

// P12.1: splits, target by target, each in its order.
func TestFaultsOfSplits(t *testing.T) {
	head := "kind: Split\nname: x\n"
	wantFault(t, "\n"+head, 0, 2, api.ErrMissing)
	wantFault(t, head+"targets:\n", 0, 3, api.ErrValue)
	wantFault(t, head+"targets:\n  service: w\n", 0, 4, api.ErrValue)
	head += "targets:\n  - service: w\n    weight: 1\n"
	wantFault(t, head+"  - w\n  - x: y\n", 0, 6, api.ErrValue)
	wantFault(t, head+"  - - service: w\n", 0, 6, api.ErrValue)
	wantFault(t, head+"  -\n", 0, 6, api.ErrValue)
	wantFault(t, head+"  - weight: 500\n    x: 1\n    y: 2\n", 0, 7, api.ErrField)
	wantFault(t, head+"  - service: a b\n    split: a b\n    Weight: 1\n", 0, 8, api.ErrField)
	wantFault(t, head+"  - \n\n    weight: 500\n", 0, 8, api.ErrMissing)
	wantFault(t, head+"  - split: a b\n    weight: 500\n    service: a b\n", 0, 8, api.ErrField)
	wantFault(t, head+"  - service: a b\n    weight: 500\n    split: a b\n", 0, 8, api.ErrField)
	wantFault(t, head+"  - weight: 500\n    split: a b\n", 0, 7, api.ErrValue)
	wantFault(t, head+"  - weight: 500\n    service: \"\"\n", 0, 7, api.ErrValue)
	wantFault(t, head+"  - weight: 500\n    service:\n      - w\n", 0, 8, api.ErrValue)
	wantFault(t, head+"  - service: w\n", 0, 6, api.ErrMissing)
	wantFault(t, head+"  - split: w\n  - x\n", 0, 6, api.ErrMissing)
	wantFault(t, head+"  - split: w\n    weight:\n      - 5\n", 0, 8, api.ErrValue)
	wantFault(t, head+"  - split: w\n    weight:\n      x: 5\n", 0, 8, api.ErrValue)
	wantFault(t, head+"  - split: w\n    weight: 500\n  - x\n", 0, 7, api.ErrValue)
	wantSaid(t, head+"  - split: w\n    weight: 1\n  - service: w\n    weight: 1\n", split("x", api.Target{Service: "w", Weight: 1}, api.Target{Split: "w", Weight: 1}, api.Target{Service: "w", Weight: 1}))
}

// P12.1: routes, their host first, then rule by rule.
func TestFaultsOfRoutes(t *testing.T) {
	head := "kind: Route\nname: x\n"
	wantFault(t, head+"rules: y\n", 0, 1, api.ErrMissing)
	for _, host := range []string{"", "a_b", "'*a'", "'*.'", "a b", "a.*", strings.Repeat("h", 65), "\n  - h", "\n  h: h"} {
		wantFault(t, head+"host: "+host+"\n", 0, 3+strings.Count(host, "\n"), api.ErrValue)
	}
	head += "host: h\n"
	wantFault(t, "\n\n"+head, 0, 3, api.ErrMissing)
	wantFault(t, head+"rules:\n", 0, 4, api.ErrValue)
	wantFault(t, head+"rules:\n  path: /\n", 0, 5, api.ErrValue)
	head += "rules:\n- path: /\n  split: s\n"
	wantFault(t, head+"- /\n", 0, 7, api.ErrValue)
	wantFault(t, head+"-\n- x: y\n", 0, 7, api.ErrValue)
	wantFault(t, head+"- path: x\n  action: deny\n  x: y\n", 0, 8, api.ErrField)
	wantFault(t, head+"- split: a b\n  method: get\n", 0, 7, api.ErrMissing)
	wantFault(t, head+"- split: a b\n  method: get\n  path: x\n", 0, 9, api.ErrValue)
	wantFault(t, head+"- split: a b\n  method: get\n  path: /\n", 0, 8, api.ErrValue)
	wantFault(t, head+"- split: a b\n  method:\n  path: /\n", 0, 8, api.ErrValue)
	wantFault(t, head+"- split: a b\n  method:\n    - GET\n  path: /\n", 0, 9, api.ErrValue)
	wantFault(t, head+"- split: a b\n  method: GET\n  path: /\n", 0, 7, api.ErrValue)
	wantFault(t, head+"- method: GET\n  path: /\n- x\n", 0, 7, api.ErrMissing)
	wantFault(t, head+"- method: GET\n  path:\n    \"/\": /\n", 0, 9, api.ErrValue)
	wantFault(t, head+"- method: GET\n  path:\n  - /\n", 0, 9, api.ErrValue)
	wantFault(t, head+"- method: GET\n  path: /\n  split:\n  - s\n", 0, 10, api.ErrValue)
}

// P12.1: policies, their route first, then rule by rule, each rule's action first.
func TestFaultsOfPolicies(t *testing.T) {
	head := "kind: Policy\nname: x\n"
	wantFault(t, head+"rules: y\n", 0, 1, api.ErrMissing)
	for _, route := range []string{"", "a b", "'*'", strings.Repeat("h", 65), "\n  - h", "\n  h: h"} {
		wantFault(t, head+"route: "+route+"\n", 0, 3+strings.Count(route, "\n"), api.ErrValue)
	}
	head += "route: r\n"
	wantFault(t, head, 0, 1, api.ErrMissing)
	wantFault(t, head+"rules: ''\n", 0, 4, api.ErrValue)
	head += "rules:\n- path: /\n  action: deny\n"
	wantFault(t, head+"- /\n", 0, 7, api.ErrValue)
	wantFault(t, head+"- path: x\n  split: s\n  x: y\n", 0, 8, api.ErrField)
	wantFault(t, head+"- method: get\n", 0, 7, api.ErrMissing)
	for _, action := range []string{"", "Allow", "may", "true", "allow deny", "\n  - deny", "\n    deny: x"} {
		wantFault(t, head+"- method: get\n  action: "+action+"\n", 0, 8+strings.Count(action, "\n"), api.ErrValue)
	}
	wantFault(t, head+"- method: get\n  action: allow\n", 0, 7, api.ErrMissing)
	wantFault(t, head+"- method: get\n  action: allow\n  path: x\n", 0, 9, api.ErrValue)
	wantFault(t, head+"- method: get\n  action: allow\n  path: /\n", 0, 7, api.ErrValue)
	wantSaid(t, head+"- method: GET\n  action: allow\n  path: /\n", policy("x", "r", api.Rule{Path: "/", Method: "*"}, api.Rule{Path: "/", Method: "GET", Allow: true}))
}
