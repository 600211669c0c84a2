package schema_test

import (
	"math"
	"math/rand"
	"slices"
	"strconv"
	"strings"
	"testing"

	"turnpike/api"
	"turnpike/lines"
	"turnpike/scalar"
	"turnpike/schema"
)

// modelMay: whether some document says that resource, field by field.
func modelMay(r api.Resource) bool {
	if r.Kind < 1 || r.Kind > 4 || !modelName(r.Name) {
		return false
	}
	isEmpty := []bool{true, len(r.Endpoints) == 0, len(r.Targets) == 0, r.Host == "", r.Route == ""}
	for kind, empty := range isEmpty {
		if !empty && (kind != r.Kind || r.Delete) {
			return false
		}
	}
	if r.Delete || r.Kind < api.Route {
		if len(r.Rules) > 0 {
			return false
		}
	}
	switch {
	case r.Delete:
		return true
	case r.Kind == api.Service:
		return len(r.Endpoints) <= 16 && areAll(r.Endpoints, modelName) && len(slices.Compact(slices.Sorted(slices.Values(r.Endpoints)))) == len(r.Endpoints)
	case r.Kind == api.Split:
		return len(r.Targets) >= 1 && len(r.Targets) <= 8 && areAll(r.Targets, modelMayTarget)
	}
	isRule := func(x api.Rule) bool {
		last := modelName(x.Split) && !x.Allow
		if r.Kind == api.Policy {
			last = x.Split == ""
		}
		return modelPath(x.Path) && modelMethod(x.Method) && last
	}
	isHead := modelHost(r.Host) && strings.ToLower(r.Host) == r.Host
	if r.Kind == api.Policy {
		isHead = modelName(r.Route)
	}
	return isHead && len(r.Rules) >= 1 && len(r.Rules) <= 16 && areAll(r.Rules, isRule)
}

func areAll[T any](l []T, such func(T) bool) bool {
	return !slices.ContainsFunc(l, func(x T) bool { return !such(x) })
}

func modelMayTarget(x api.Target) bool {
	_, _, e := scalar.Print(scalar.Value{Kind: scalar.Real, Real: x.Weight})
	return (x.Service == "") != (x.Split == "") && modelName(x.Service+x.Split) && x.Weight >= 0 && x.Weight <= 100 && e == api.OK
}

// modelText: the text of a resource that may be written, line by line.
func modelText(r api.Resource) string {
	text := func(s string) string {
		if lines.Plain(s) {
			return s
		}
		return lines.Quote(s)
	}
	s := "kind: " + []string{"", "Service", "Split", "Route", "Policy"}[r.Kind] + "\nname: " + text(r.Name) + "\n"
	if r.Delete {
		return s + "delete: true\n"
	}
	s += []string{"", "", "targets:\n", "host: " + text(r.Host) + "\nrules:\n", "route: " + text(r.Route) + "\nrules:\n"}[r.Kind]
	for i, name := range r.Endpoints {
		s += []string{"endpoints:\n", ""}[min(i, 1)] + "  - " + text(name) + "\n"
	}
	for _, x := range r.Targets {
		key := "split"
		if x.Service != "" {
			key = "service"
		}
		w, _, _ := scalar.Print(scalar.Value{Kind: scalar.Real, Real: x.Weight})
		if x.Weight == math.Trunc(x.Weight) {
			w = strconv.Itoa(int(x.Weight))
		}
		s += "  - " + key + ": " + text(x.Service+x.Split) + "\n    weight: " + w + "\n"
	}
	for _, x := range r.Rules {
		path, method := "path: "+text(x.Path)+"\n", "    method: "+text(x.Method)+"\n"
		switch {
		case r.Kind == api.Route:
			s += "  - " + path + method + "    split: " + text(x.Split) + "\n"
		case x.Allow:
			s += "  - action: allow\n    " + path + method
		default:
			s += "  - action: deny\n    " + path + method
		}
	}
	return s
}

// anyResource: one that may be written.
func anyResource(r *rand.Rand) api.Resource { return modelResource(anyDocument(r)) }

// spoilResource changes one thing, most often to what may not be.
func spoilResource(r *rand.Rand, x *api.Resource) {
	weights := []float64{0, math.Copysign(0, -1), 1, 50.5, 100, 100.5, -1, math.NaN(), math.Inf(1), 1.0 / 3, 1e-22, 1e-23, math.Nextafter(100, 0)}
	target := api.Target{Service: oneOf(r, "", "a"), Split: oneOf(r, "", "b", "a b"), Weight: weights[r.Intn(len(weights))]}
	rule := api.Rule{Path: oneOf(r, "/", "*", "a", ""), Method: oneOf(r, "*", "GET", "get", ""), Split: oneOf(r, "s", "", "a b"), Allow: r.Intn(2) == 0}
	switch r.Intn(12) {
	case 0:
		x.Kind = r.Intn(8) - 1
	case 1:
		x.Name = anyText(r)
	case 2:
		x.Delete = !x.Delete
	case 3:
		x.Endpoints = append(slices.Clone(x.Endpoints), anyText(r))
	case 4:
		x.Targets = append(slices.Clone(x.Targets), target)
	case 5:
		x.Rules = append(slices.Clone(x.Rules), rule)
	case 6:
		x.Host = oneOf(r, "", "A", "*.B", anyText(r))
	case 7:
		x.Route = anyText(r)
	case 8:
		x.Endpoints, x.Targets = nil, nil
	case 9:
		x.Rules = x.Rules[len(x.Rules)/2:]
	case 10:
		if len(x.Rules) > 0 {
			x.Rules = slices.Clone(x.Rules)
			x.Rules[r.Intn(len(x.Rules))] = rule
		}
	case 11:
		if len(x.Targets) > 0 {
			x.Targets = slices.Clone(x.Targets)
			x.Targets[r.Intn(len(x.Targets))] = target
		}
	}
}

// P12.2, P12.3: any resources: whether they may be written, their trees and their texts.
func TestAnyResources(t *testing.T) {
	r := rand.New(rand.NewSource(2))
	may, not := 0, 0
	for range 30000 {
		x := anyResource(r)
		for range r.Intn(4) {
			spoilResource(r, &x)
		}
		if modelMay(x) {
			wantText(t, x, modelText(x))
			may++
		} else {
			wantNot(t, x)
			not++
		}
		if t.Failed() {
			t.Fatalf("%v", x)
		}
	}
	if may < 10000 || not < 10000 {
		t.Errorf("%d may be written, %d may not", may, not)
	}
}

// same: whether two resources are the same, their weights equal.
func same(a, b api.Resource) bool {
	if !slices.Equal(a.Targets, b.Targets) {
		return false
	}
	a.Targets, b.Targets = nil, nil
	return equal(a, b)
}

// wantBack: layer 9 reads the Text of resources as so many documents, which say them.
func wantBack(t *testing.T, l []api.Resource) {
	t.Helper()
	s, e := schema.Text(l...)
	if e != api.OK {
		t.Fatalf("%v: %d", l, int(e))
	}
	got, f := schema.Decode(parse(t, s))
	if f != (api.Fault{}) || !slices.EqualFunc(got, l, same) {
		t.Fatalf("%v: %q: %v, %v", l, s, got, f)
	}
	var trees [][]api.Node
	for _, r := range l {
		trees = append(trees, schema.Tree(r))
	}
	if again, f := schema.Decode(trees); f != (api.Fault{}) || !slices.EqualFunc(again, l, same) {
		t.Fatalf("%v: %v, %v, of their trees", l, again, f)
	}
}

// P12.4: any resources there and back.
func TestThereAndBack(t *testing.T) {
	r := rand.New(rand.NewSource(3))
	wantBack(t, nil)
	for range 5000 {
		var l []api.Resource
		for range r.Intn(8) {
			x := anyResource(r)
			if len(x.Targets) > 0 && r.Intn(3) == 0 {
				x.Targets[0].Weight = math.Copysign(0, -1)
			}
			l = append(l, x)
		}
		wantBack(t, l)
	}
}

// P12.4: any weights that layer 11 can tell there and back.
func TestWeightsThereAndBack(t *testing.T) {
	r := rand.New(rand.NewSource(4))
	seen := 0
	for range 50000 {
		w, e := scalar.Scaled(uint64(r.Int63n(int64(math.Pow10(1+r.Intn(15))))), -r.Intn(23))
		if e != api.OK || w > 100 {
			continue
		}
		seen++
		wantBack(t, []api.Resource{split("s", api.Target{Service: "w", Weight: w})})
	}
	if seen < 5000 {
		t.Errorf("%d weights", seen)
	}
}

// P12.4: the greatest resources there and back.
func TestGreatThereAndBack(t *testing.T) {
	name, path := strings.Repeat("n", 64), "/"+strings.Repeat("\"", 254)+":"
	rule := api.Rule{Path: path, Method: strings.Repeat("M", 64), Split: name}
	var names []string
	for i := range 16 {
		names = append(names, strings.Repeat(string(rune('a'+i)), 64))
	}
	wantBack(t, []api.Resource{
		service(name, names...), split(name, slices.Repeat([]api.Target{{Service: name, Weight: 99.9999999999999}}, 8)...),
		route(name, "*."+name, slices.Repeat([]api.Rule{rule}, 16)...), policy(name, name, slices.Repeat([]api.Rule{{Path: path[:255] + ":*", Method: rule.Method}}, 16)...),
	})
}

// P12.4: what Decode tells may be written, and its text says the same.
func TestWhatIsSaidMayBeWritten(t *testing.T) {
	r := rand.New(rand.NewSource(5))
	seen := 0
	for range 20000 {
		p := anyDocument(r)
		for range r.Intn(3) {
			spoil(r, p)
		}
		l, f := schema.Decode([][]api.Node{nodes(p)})
		if f != (api.Fault{}) {
			continue
		}
		seen++
		if !schema.May(l[0]) {
			t.Fatalf("%v may not be written", l[0])
		}
		wantBack(t, l)
	}
	if seen < 5000 {
		t.Errorf("%d said something", seen)
	}
}
