package schema_test

import (
	"math/rand"
	"slices"
	"strings"
	"testing"

	"turnpike/api"
	"turnpike/scalar"
	"turnpike/schema"
)

// part is a node with what stands below it; a map's parts have their keys.
type part struct {
	kind   int
	key    string
	text   string
	quoted bool
	line   int
	kids   []*part
}

// nodes: the list of a tree.
func nodes(p *part) []api.Node {
	l := []api.Node{{Kind: p.kind, Key: p.key, Text: p.text, Quoted: p.quoted, Line: p.line}}
	for _, kid := range p.kids {
		here := len(l)
		l[0].Kids = append(l[0].Kids, here)
		for _, n := range nodes(kid) {
			for i := range n.Kids {
				n.Kids[i] += here
			}
			l = append(l, n)
		}
	}
	return l
}

// under: the part that stands under a key; nil, if there is none.
func (p *part) under(key string) *part {
	for _, kid := range p.kids {
		if kid.key == key {
			return kid
		}
	}
	return nil
}

// stranger: the first part whose key is none of these; nil, if there is none.
func (p *part) stranger(keys string) *part {
	for _, kid := range p.kids {
		if !slices.Contains(strings.Fields(keys), kid.key) {
			return kid
		}
	}
	return nil
}

const (
	great  = "ABCDEFGHIJKLMNOPQRSTUVWXYZ"
	others = "abcdefghijklmnopqrstuvwxyz0123456789-."
)

func modelName(s string) bool {
	return len(s) >= 1 && len(s) <= 64 && strings.Trim(s, great+others+"_") == ""
}

func modelHost(s string) bool {
	if s == "*" {
		return true
	}
	s = strings.TrimPrefix(s, "*.")
	return modelName(s) && !strings.Contains(s, "_")
}

func modelPath(s string) bool {
	if s == "*" {
		return true
	}
	s, _ = strings.CutSuffix(s, "*")
	return strings.HasPrefix(s, "/") && len(s) <= 256 && !strings.ContainsFunc(s, func(c rune) bool { return c < 33 || c > 126 })
}

func modelMethod(s string) bool {
	return s == "*" || len(s) >= 1 && len(s) <= 64 && strings.Trim(s, great) == ""
}

// modelFault goes through what a document says, by the chapter's list, and tells the first thing that is wrong; nothing of it makes a resource.
func modelFault(p *part) (int, api.Errno) {
	if p.kind != api.Map {
		return p.line, api.ErrValue
	}
	kind := p.under("kind")
	if kind == nil {
		return p.line, api.ErrMissing
	}
	fields, known := map[string]string{"Service": "endpoints", "Split": "targets", "Route": "host rules", "Policy": "route rules"}[kind.text]
	if kind.kind != api.Scalar || !known {
		return kind.line, api.ErrKind
	}
	if line, e := modelScalar(p, "name", modelName); e != api.OK {
		return line, e
	}
	if del := p.under("delete"); del != nil {
		if del.kind != api.Scalar || del.text != "true" || del.quoted {
			return del.line, api.ErrValue
		}
		fields = "delete"
	}
	if odd := p.stranger("kind name " + fields); odd != nil {
		return odd.line, api.ErrField
	}
	switch fields {
	case "endpoints":
		return modelEndpoints(p.under("endpoints"))
	case "targets":
		return modelSeq(p, "targets", 8, modelTarget)
	case "host rules":
		if line, e := modelScalar(p, "host", modelHost); e != api.OK {
			return line, e
		}
		return modelSeq(p, "rules", 16, modelRouteRule)
	case "route rules":
		if line, e := modelScalar(p, "route", modelName); e != api.OK {
			return line, e
		}
		return modelSeq(p, "rules", 16, modelPolicyRule)
	}
	return 0, api.OK
}

func modelScalar(p *part, key string, such func(string) bool) (int, api.Errno) {
	kid := p.under(key)
	if kid == nil {
		return p.line, api.ErrMissing
	}
	if kid.kind != api.Scalar || !such(kid.text) {
		return kid.line, api.ErrValue
	}
	return 0, api.OK
}

func modelEndpoints(p *part) (int, api.Errno) {
	switch {
	case p == nil:
		return 0, api.OK
	case p.kind != api.Seq:
		return p.line, api.ErrValue
	case len(p.kids) > 16:
		return p.line, api.ErrCount
	}
	had := map[string]bool{}
	for _, kid := range p.kids {
		if kid.kind != api.Scalar || !modelName(kid.text) {
			return kid.line, api.ErrValue
		}
		if had[kid.text] {
			return kid.line, api.ErrTwice
		}
		had[kid.text] = true
	}
	return 0, api.OK
}

func modelSeq(p *part, key string, most int, each func(*part) (int, api.Errno)) (int, api.Errno) {
	seq := p.under(key)
	switch {
	case seq == nil:
		return p.line, api.ErrMissing
	case seq.kind != api.Seq:
		return seq.line, api.ErrValue
	case len(seq.kids) > most:
		return seq.line, api.ErrCount
	}
	for _, kid := range seq.kids {
		if kid.kind != api.Map {
			return kid.line, api.ErrValue
		}
		if line, e := each(kid); e != api.OK {
			return line, e
		}
	}
	return 0, api.OK
}

func modelTarget(p *part) (int, api.Errno) {
	if odd := p.stranger("service split weight"); odd != nil {
		return odd.line, api.ErrField
	}
	var names []*part
	for _, kid := range p.kids {
		if kid.key != "weight" {
			names = append(names, kid)
		}
	}
	switch {
	case len(names) == 0:
		return p.line, api.ErrMissing
	case len(names) == 2:
		return names[1].line, api.ErrField
	}
	if line, e := modelScalar(p, names[0].key, modelName); e != api.OK {
		return line, e
	}
	w := p.under("weight")
	if w == nil {
		return p.line, api.ErrMissing
	}
	if _, is := modelWeight(w); !is {
		return w.line, api.ErrValue
	}
	return 0, api.OK
}

func modelWeight(p *part) (float64, bool) {
	if p.kind != api.Scalar {
		return 0, false
	}
	switch v := scalar.Read(p.text, p.quoted); {
	case v.Kind == scalar.Int && v.Int >= 0 && v.Int <= 100:
		return float64(v.Int), true
	case v.Kind == scalar.Real && v.Real == 0:
		return 0, true
	case v.Kind == scalar.Real && v.Real > 0 && v.Real <= 100:
		return v.Real, true
	}
	return 0, false
}

func modelRouteRule(p *part) (int, api.Errno) {
	return modelRule(p, "path method split", "path", modelPath, "split", modelName)
}

func modelPolicyRule(p *part) (int, api.Errno) {
	return modelRule(p, "path method action", "action", func(s string) bool { return s == "allow" || s == "deny" }, "path", modelPath)
}

// modelRule: a rule, the fields ahead of and behind which its method is looked at; a policy's path stands ahead of it, too.
func modelRule(p *part, fields, first string, isFirst func(string) bool, last string, isLast func(string) bool) (int, api.Errno) {
	if odd := p.stranger(fields); odd != nil {
		return odd.line, api.ErrField
	}
	if line, e := modelScalar(p, first, isFirst); e != api.OK {
		return line, e
	}
	if last == "path" {
		if line, e := modelScalar(p, last, isLast); e != api.OK {
			return line, e
		}
	}
	if p.under("method") != nil {
		if line, e := modelScalar(p, "method", modelMethod); e != api.OK {
			return line, e
		}
	}
	return modelScalar(p, last, isLast)
}

// modelResource: what a document says in which nothing is wrong.
func modelResource(p *part) api.Resource {
	r := api.Resource{Name: p.under("name").text, Delete: p.under("delete") != nil}
	r.Kind = slices.Index([]string{"", "Service", "Split", "Route", "Policy"}, p.under("kind").text)
	if host := p.under("host"); host != nil {
		r.Host = strings.ToLower(host.text)
	}
	if route := p.under("route"); route != nil {
		r.Route = route.text
	}
	each := func(key string, do func(kid *part)) {
		if seq := p.under(key); seq != nil {
			for _, kid := range seq.kids {
				do(kid)
			}
		}
	}
	text := func(p *part, key, without string) string {
		if kid := p.under(key); kid != nil {
			return kid.text
		}
		return without
	}
	each("endpoints", func(kid *part) { r.Endpoints = append(r.Endpoints, kid.text) })
	each("targets", func(kid *part) {
		w, _ := modelWeight(kid.under("weight"))
		r.Targets = append(r.Targets, api.Target{Service: text(kid, "service", ""), Split: text(kid, "split", ""), Weight: w})
	})
	each("rules", func(kid *part) {
		r.Rules = append(r.Rules, api.Rule{Path: text(kid, "path", ""), Method: text(kid, "method", "*"), Split: text(kid, "split", ""), Allow: text(kid, "action", "") == "allow"})
	})
	return r
}

// wantModel: Decode answers of one document what the model says; what that is.
func wantModel(t *testing.T, p *part) api.Errno {
	t.Helper()
	l := nodes(p)
	got, f := schema.Decode([][]api.Node{l})
	line, e := modelFault(p)
	if f != (api.Fault{Line: line, Err: e}) || (e == api.OK) != (len(got) == 1) {
		t.Fatalf("%v: %v, %v, want %d, %d", l, got, f, line, int(e))
	}
	if e == api.OK && !equal(got[0], modelResource(p)) {
		t.Fatalf("%v: %v, want %v", l, got[0], modelResource(p))
	}
	return e
}

// P12.1: any documents, most of them with something wrong in them.
func TestAnyDocuments(t *testing.T) {
	r := rand.New(rand.NewSource(1))
	seen := map[api.Errno]int{}
	for range 60000 {
		p := anyDocument(r)
		for range r.Intn(4) {
			spoil(r, p)
		}
		number(r, p)
		seen[wantModel(t, p)]++
	}
	for _, e := range []api.Errno{api.OK, api.ErrKind, api.ErrField, api.ErrMissing, api.ErrValue, api.ErrCount, api.ErrTwice} {
		if seen[e] < 100 {
			t.Errorf("%d documents of %d", seen[e], int(e))
		}
	}
}
