package schema

import (
	"strconv"
	"strings"

	"turnpike/api"
	"turnpike/lines"
	"turnpike/scalar"
)

// longest: no text of a resource has more bytes: a path with '*' behind it.
const longest = api.MaxPath + 1

// enough: of a list that is too long no more than is too long too, however much there is.
func enough[T any](l []T, most int) []T { return l[:min(len(l), most+1)] }

// writer makes a tree, its nodes in the order in which they are written.
type writer struct {
	nodes []api.Node
}

// write: the tree of a resource that may be written; of another one a list that says something else, or nothing.
func write(r api.Resource) []api.Node {
	var w writer
	w.nodes = append(w.nodes, api.Node{Kind: api.Map})
	w.text(0, "kind", kindName(r.Kind))
	w.text(0, "name", r.Name)
	if r.Delete {
		w.text(0, "delete", "true")
		return w.nodes
	}
	switch r.Kind {
	case api.Service:
		w.endpoints(r.Endpoints)
	case api.Split:
		w.targets(r.Targets)
	case api.Route:
		w.text(0, "host", r.Host)
		w.rules(r.Rules, w.routeRule)
	case api.Policy:
		w.text(0, "route", r.Route)
		w.rules(r.Rules, w.policyRule)
	}
	return w.nodes
}

// hang adds a node as the last kid of another one, and tells its number.
func (w *writer) hang(parent int, n api.Node) int {
	at := len(w.nodes)
	w.nodes = append(w.nodes, n)
	w.nodes[parent].Kids = append(w.nodes[parent].Kids, at)
	return at
}

func (w *writer) text(parent int, key, s string) {
	s = strings.Clone(s[:min(len(s), longest+1)])
	w.hang(parent, api.Node{Kind: api.Scalar, Key: key, Text: s, Quoted: !lines.Plain(s)})
}

func (w *writer) endpoints(names []string) {
	if len(names) == 0 {
		return
	}
	seq := w.hang(0, api.Node{Kind: api.Seq, Key: "endpoints"})
	for _, name := range enough(names, api.MaxEndpoints) {
		w.text(seq, "", name)
	}
}

func (w *writer) targets(targets []api.Target) {
	seq := w.hang(0, api.Node{Kind: api.Seq, Key: "targets"})
	for _, t := range enough(targets, api.MaxTargets) {
		at := w.hang(seq, api.Node{Kind: api.Map})
		if t.Service != "" {
			w.text(at, "service", t.Service)
		} else {
			w.text(at, "split", t.Split)
		}
		w.text(at, "weight", weightText(t.Weight))
	}
}

func (w *writer) rules(rules []api.Rule, fields func(at int, rule api.Rule)) {
	seq := w.hang(0, api.Node{Kind: api.Seq, Key: "rules"})
	for _, rule := range enough(rules, api.MaxRules) {
		fields(w.hang(seq, api.Node{Kind: api.Map}), rule)
	}
}

func (w *writer) routeRule(at int, rule api.Rule) {
	w.text(at, "path", rule.Path)
	w.text(at, "method", rule.Method)
	w.text(at, "split", rule.Split)
}

func (w *writer) policyRule(at int, rule api.Rule) {
	w.text(at, "action", actionName(rule.Allow))
	w.text(at, "path", rule.Path)
	w.text(at, "method", rule.Method)
}

func actionName(isAllowed bool) string {
	if isAllowed {
		return allow
	}
	return deny
}

// kindName: no text, if the kind is none.
func kindName(kind int) string {
	if kind < 0 || kind >= len(kindNames) {
		return ""
	}
	return kindNames[kind]
}

// weightText: no text, if it is no weight, or may not be told.
func weightText(w float64) string {
	if !isWeight(w) {
		return ""
	}
	if n := int64(w); float64(n) == w {
		return strconv.FormatInt(n, 10)
	}
	text, _, _ := scalar.Print(scalar.Value{Kind: scalar.Real, Real: w})
	return text
}
