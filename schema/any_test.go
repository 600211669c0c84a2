package schema_test

import (
	"math/rand"

	"turnpike/api"
	"turnpike/lines"
)

func oneOf(r *rand.Rand, l ...string) string { return l[r.Intn(len(l))] }

func anyName(r *rand.Rand) string {
	return oneOf(r, "a", "b", "web", "Web", "x-1", "A.b_c", "-", "---", "--", ".", "0", "5", "true", "null", "1.5", "e1", "e2", "e3", string(rune('f'+r.Intn(20))))
}

func anyHost(r *rand.Rand) string {
	return oneOf(r, "*", "*.a", "*.B.c", "a", "A", "shop.example", "-", ".", "*.9")
}

func anyPath(r *rand.Rand) string {
	return oneOf(r, "*", "/", "/*", "/a", "/a*", "/**", "/a:", "/a:b", "/#", "/\"", "/\\*", "/~!{}", "/a*b")
}

func anyMethod(r *rand.Rand) string { return oneOf(r, "*", "GET", "POST", "A") }

func anyWeight(r *rand.Rand) string {
	return oneOf(r, "0", "-0.0", "0.0", "1", "50", "100", "100.0", "33.3", "0.1", "1.0e2", "99.9999999999999", "1.5e-7")
}

// text: a scalar under a key, quoted where it must be, and now and then where it need not.
func text(r *rand.Rand, key, s string) *part {
	return &part{kind: api.Scalar, key: key, text: s, quoted: !lines.Plain(s) || key != "weight" && key != "delete" && r.Intn(4) == 0}
}

func block(kind int, key string, kids ...*part) *part { return &part{kind: kind, key: key, kids: kids} }

// anyDocument: one in which nothing is wrong, its fields in whatever order.
func anyDocument(r *rand.Rand) *part {
	kind := oneOf(r, "Service", "Split", "Route", "Policy")
	p := block(api.Map, "", text(r, "kind", kind), text(r, "name", anyName(r)))
	switch {
	case r.Intn(8) == 0:
		p.kids = append(p.kids, text(r, "delete", "true"))
	case kind == "Service" && r.Intn(4) > 0:
		p.kids = append(p.kids, anyEndpoints(r))
	case kind == "Split":
		p.kids = append(p.kids, anySeq(r, "targets", 8, anyTarget))
	case kind == "Route":
		p.kids = append(p.kids, text(r, "host", anyHost(r)), anySeq(r, "rules", 16, anyRouteRule))
	case kind == "Policy":
		p.kids = append(p.kids, text(r, "route", anyName(r)), anySeq(r, "rules", 16, anyPolicyRule))
	}
	shuffle(r, p)
	return p
}

func shuffle(r *rand.Rand, p *part) {
	r.Shuffle(len(p.kids), func(i, j int) { p.kids[i], p.kids[j] = p.kids[j], p.kids[i] })
}

// few: a number from 1 to most, a small one most often.
func few(r *rand.Rand, most int) int { return 1 + r.Intn(1+r.Intn(most)) }

func anyEndpoints(r *rand.Rand) *part {
	seq := block(api.Seq, "endpoints")
	had := map[string]bool{}
	for range few(r, 16) {
		if name := anyName(r); !had[name] {
			had[name] = true
			seq.kids = append(seq.kids, text(r, "", name))
		}
	}
	return seq
}

func anySeq(r *rand.Rand, key string, most int, one func(*rand.Rand) *part) *part {
	seq := block(api.Seq, key)
	for range few(r, most) {
		kid := one(r)
		shuffle(r, kid)
		seq.kids = append(seq.kids, kid)
	}
	return seq
}

func anyTarget(r *rand.Rand) *part {
	return block(api.Map, "", text(r, oneOf(r, "service", "split"), anyName(r)), text(r, "weight", anyWeight(r)))
}

func anyRouteRule(r *rand.Rand) *part {
	p := block(api.Map, "", text(r, "path", anyPath(r)), text(r, "split", anyName(r)))
	if r.Intn(3) > 0 {
		p.kids = append(p.kids, text(r, "method", anyMethod(r)))
	}
	return p
}

func anyPolicyRule(r *rand.Rand) *part {
	p := block(api.Map, "", text(r, "path", anyPath(r)), text(r, "action", oneOf(r, "allow", "deny")))
	if r.Intn(3) > 0 {
		p.kids = append(p.kids, text(r, "method", anyMethod(r)))
	}
	return p
}

// all: a part and all that stand below it.
func all(p *part) []*part {
	l := []*part{p}
	for _, kid := range p.kids {
		l = append(l, all(kid)...)
	}
	return l
}

// anyKey: one that a map might have, or not.
func anyKey(r *rand.Rand) string {
	return oneOf(r, "kind", "name", "delete", "endpoints", "targets", "host", "rules", "route", "service", "split", "weight", "path", "method", "action", "port", "Kind", "")
}

// anyText: one that a field might have, or not.
func anyText(r *rand.Rand) string {
	return oneOf(r, "", "Service", "Split", "Route", "Policy", "service", "true", "false", "allow", "deny", "*", "/", "/a b", "a b", "a/b", "GET", "get", "5", "-1", "-0.0", "101", "100.5", ".nan", ".inf", "~", "a_b", "*.A", "*.", "\n", "\xff", anyName(r), anyWeight(r))
}

// anyPart: something that may stand anywhere.
func anyPart(r *rand.Rand, key string) *part {
	switch r.Intn(6) {
	case 0:
		return block(api.Seq, key, text(r, "", anyText(r)))
	case 1:
		return block(api.Map, key, text(r, anyKey(r), anyText(r)))
	}
	p := &part{kind: api.Scalar, key: key, text: anyText(r)}
	p.quoted = p.text != "" && !lines.Plain(p.text) || r.Intn(3) == 0
	return p
}

// spoil changes one thing; what is left is a tree.
func spoil(r *rand.Rand, p *part) {
	l := all(p)
	p = l[r.Intn(len(l))]
	if p.kind == api.Scalar {
		*p = *anyPart(r, p.key)
		return
	}
	at := r.Intn(len(p.kids))
	switch r.Intn(6) {
	case 0:
		if len(p.kids) > 1 {
			p.kids = append(p.kids[:at:at], p.kids[at+1:]...)
		}
	case 1:
		*p = *anyPart(r, p.key)
	case 2:
		shuffle(r, p)
	case 3:
		if key := anyKey(r); p.kind == api.Map && p.under(key) == nil {
			p.kids[at].key = key
		}
	case 4:
		if key := anyKey(r); p.kind == api.Map && p.under(key) == nil {
			p.kids = append(p.kids, anyPart(r, key))
			shuffle(r, p)
		}
	case 5:
		if p.kind == api.Seq {
			for range few(r, 20) {
				p.kids = append(p.kids, p.kids[r.Intn(len(p.kids))])
			}
		}
	}
}

// number gives all parts Lines, those of no two the same; a part that stands in several places is one in each.
func number(r *rand.Rand, p *part) {
	next := r.Intn(5)
	var give func(p *part) *part
	give = func(p *part) *part {
		own := *p
		next += 1 + r.Intn(3)
		own.line, own.kids = next, nil
		for _, kid := range p.kids {
			own.kids = append(own.kids, give(kid))
		}
		return &own
	}
	*p = *give(p)
}
