package schema

import (
	"slices"
	"strings"

	"turnpike/api"
	"turnpike/emit"
	"turnpike/paths"
	"turnpike/scalar"
	"turnpike/words"
)

// The texts of documents that stand for something.
const (
	allow      = "allow"
	deny       = "deny"
	allMethods = "*"
)

// kindNames: at each kind's number.
var kindNames = [...]string{api.Service: "Service", api.Split: "Split", api.Route: "Route", api.Policy: "Policy"}

// wrong is why a document is given up: it is thrown where it is met, and caught where the document began to be read.
type wrong struct {
	line int
	err  api.Errno
}

// caught: what was thrown; the zero one, if nothing was.
func caught(thrown any) wrong {
	if thrown == nil {
		return wrong{}
	}
	why, is := thrown.(wrong)
	if !is {
		panic(thrown) // no document's: a fault of this package must not pass for an answer
	}
	return why
}

// read: what a document says, or why it says nothing.
func read(nodes []api.Node) (r api.Resource, why wrong) {
	defer func() { why = caught(recover()) }()
	if emit.May(nodes) == api.ErrEmit {
		panic(wrong{err: api.ErrEmit})
	}
	return document{nodes}.resource(), wrong{}
}

// document is a tree that is read.
type document struct {
	nodes []api.Node
}

// form is how a kind is written: the fields that it may have, and what reads those that are its own.
type form struct {
	fields []string
	read   func(r *api.Resource)
}

func (d document) forms() [len(kindNames)]form {
	return [...]form{
		api.Service: {[]string{"kind", "name", "endpoints"}, d.service},
		api.Split:   {[]string{"kind", "name", "targets"}, d.split},
		api.Route:   {[]string{"kind", "name", "host", "rules"}, d.route},
		api.Policy:  {[]string{"kind", "name", "route", "rules"}, d.policy},
	}
}

func (d document) resource() api.Resource {
	d.mustBe(0, api.Map)
	r := api.Resource{Kind: d.kind(d.field(0, "kind"))}
	r.Name = d.text(d.field(0, "name"), words.IsName)
	if at, is := d.find(0, "delete"); is {
		d.mustBeTrue(at)
		d.mustHaveOnly(0, "kind", "name", "delete")
		r.Delete = true
		return r
	}
	f := d.forms()[r.Kind]
	d.mustHaveOnly(0, f.fields...)
	f.read(&r)
	return r
}

func (d document) service(r *api.Resource) {
	at, is := d.find(0, "endpoints")
	if !is {
		return
	}
	for _, kid := range d.kids(at, api.MaxEndpoints) {
		name := d.text(kid, words.IsName)
		if slices.Contains(r.Endpoints, name) {
			d.giveUp(kid, api.ErrTwice)
		}
		r.Endpoints = append(r.Endpoints, name)
	}
}

func (d document) split(r *api.Resource) {
	for _, kid := range d.kids(d.field(0, "targets"), api.MaxTargets) {
		r.Targets = append(r.Targets, d.target(kid))
	}
}

func (d document) route(r *api.Resource) {
	r.Host = folded(d.text(d.field(0, "host"), paths.HostPattern))
	for _, kid := range d.kids(d.field(0, "rules"), api.MaxRules) {
		r.Rules = append(r.Rules, d.routeRule(kid))
	}
}

func (d document) policy(r *api.Resource) {
	r.Route = d.text(d.field(0, "route"), words.IsName)
	for _, kid := range d.kids(d.field(0, "rules"), api.MaxRules) {
		r.Rules = append(r.Rules, d.policyRule(kid))
	}
}

func (d document) target(at int) api.Target {
	d.mustBe(at, api.Map)
	d.mustHaveOnly(at, "service", "split", "weight")
	service, isService := d.find(at, "service")
	split, isSplit := d.find(at, "split")
	var t api.Target
	switch {
	case isService && isSplit:
		d.giveUp(max(service, split), api.ErrField)
	case isService:
		t.Service = d.text(service, words.IsName)
	case isSplit:
		t.Split = d.text(split, words.IsName)
	default:
		d.giveUp(at, api.ErrMissing)
	}
	t.Weight = d.weight(d.field(at, "weight"))
	return t
}

func (d document) routeRule(at int) api.Rule {
	d.mustBe(at, api.Map)
	d.mustHaveOnly(at, "path", "method", "split")
	rule := api.Rule{Path: d.path(at), Method: d.method(at)}
	rule.Split = d.text(d.field(at, "split"), words.IsName)
	return rule
}

func (d document) policyRule(at int) api.Rule {
	d.mustBe(at, api.Map)
	d.mustHaveOnly(at, "path", "method", "action")
	rule := api.Rule{Allow: d.text(d.field(at, "action"), isAction) == allow}
	rule.Path, rule.Method = d.path(at), d.method(at)
	return rule
}

// path: that of the rule at a number.
func (d document) path(at int) string { return d.text(d.field(at, "path"), paths.PathPattern) }

// method: that of the rule at a number.
func (d document) method(at int) string {
	if kid, is := d.find(at, "method"); is {
		return d.text(kid, paths.MethodPattern)
	}
	return allMethods
}

func isAction(s string) bool { return s == allow || s == deny }

// folded: a host pattern, folded; every letter that it has is its host's.
func folded(pattern string) string { return strings.ToLower(pattern) }

func (d document) kind(at int) int {
	for number, name := range kindNames {
		if number >= api.Service && d.nodes[at].Kind == api.Scalar && d.nodes[at].Text == name {
			return number
		}
	}
	d.giveUp(at, api.ErrKind)
	return 0
}

// weight: -0 is answered as 0.
func (d document) weight(at int) float64 {
	v := d.value(at)
	w := v.Real
	if v.Kind == scalar.Int {
		w = float64(v.Int)
	}
	if v.Kind != scalar.Int && v.Kind != scalar.Real || !isWeight(w) {
		d.giveUp(at, api.ErrValue)
	}
	if w == 0 {
		return 0
	}
	return w
}

// isWeight: what is no number is neither above nor below.
func isWeight(w float64) bool { return w >= 0 && w <= 100 }
