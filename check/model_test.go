package check_test

import (
	"math"
	"math/rand"
	"slices"
	"testing"

	"turnpike/api"
	"turnpike/check"
	"turnpike/paths"
)

// The model goes through everything as the chapter's words read, without maps and without recursion.

func modelSame(a, b api.Resource) bool {
	if a.Kind != b.Kind || a.Name != b.Name || a.Host != b.Host || a.Route != b.Route || a.Delete != b.Delete {
		return false
	}
	if len(a.Endpoints) != len(b.Endpoints) || len(a.Targets) != len(b.Targets) || len(a.Rules) != len(b.Rules) {
		return false
	}
	for i := range a.Endpoints {
		if a.Endpoints[i] != b.Endpoints[i] {
			return false
		}
	}
	for i, x := range a.Targets {
		y := b.Targets[i]
		isWeight := x.Weight == y.Weight || math.IsNaN(x.Weight) && math.IsNaN(y.Weight)
		if x.Service != y.Service || x.Split != y.Split || !isWeight {
			return false
		}
	}
	for i := range a.Rules {
		if a.Rules[i] != b.Rules[i] {
			return false
		}
	}
	return true
}

// ahead: whether a stands ahead of b by kind and name.
func ahead(a, b api.Resource) bool {
	return a.Kind < b.Kind || a.Kind == b.Kind && a.Name < b.Name
}

// find: the place of the first resource of that kind and name; -1, if there is none.
func find(l []api.Resource, kind int, name string) int {
	return slices.IndexFunc(l, func(r api.Resource) bool { return r.Kind == kind && r.Name == name })
}

func modelOrdered(l []api.Resource) bool {
	for i, r := range l {
		if r.Kind < 1 || r.Kind > 4 || r.Delete {
			return false
		}
		for _, later := range l[i+1:] {
			if !ahead(r, later) {
				return false
			}
		}
	}
	return true
}

// put: the list with r ahead of the first that it stands ahead of.
func put(l []api.Resource, r api.Resource) []api.Resource {
	at := slices.IndexFunc(l, func(other api.Resource) bool { return ahead(r, other) })
	if at < 0 {
		at = len(l)
	}
	return slices.Insert(slices.Clone(l), at, r)
}

func modelMerge(conf, docs []api.Resource) ([]api.Resource, int, api.Errno) {
	if !modelOrdered(conf) {
		return nil, 0, api.ErrArg
	}
	out := slices.Clone(conf)
	for i, d := range docs {
		at := find(conf, d.Kind, d.Name)
		if d.Kind < 1 || d.Kind > 4 {
			return nil, i, api.ErrArg
		}
		if find(docs[:i], d.Kind, d.Name) >= 0 {
			return nil, i, api.ErrTwice
		}
		if d.Delete && at < 0 {
			return nil, i, api.ErrDelete
		}
		if at >= 0 {
			out = slices.DeleteFunc(out, func(r api.Resource) bool { return r.Kind == d.Kind && r.Name == d.Name })
		}
		if !d.Delete {
			out = put(out, d)
		}
	}
	if len(out) > 64 {
		return nil, 0, api.ErrCount
	}
	return out, 0, api.OK
}

func modelDiff(from, to []api.Resource) []api.Resource {
	var out []api.Resource
	for _, r := range slices.Concat(from, to) {
		if find(out, r.Kind, r.Name) >= 0 {
			continue
		}
		old, now := find(from, r.Kind, r.Name), find(to, r.Kind, r.Name)
		switch {
		case now < 0:
			out = put(out, api.Resource{Kind: r.Kind, Name: r.Name, Delete: true})
		case old < 0 || !modelSame(from[old], to[now]):
			out = put(out, to[now])
		}
	}
	return out
}

// modelDepths: 0 for splits that have none; found round by round, the least deep ones first.
func modelDepths(conf []api.Resource) []int {
	depths := make([]int, len(conf))
	for range conf {
		for i, r := range conf {
			deepest, isKnown := 0, r.Kind == api.Split
			for _, x := range r.Targets {
				if x.Service != "" || !isKnown {
					continue
				}
				depth := depths[find(conf, api.Split, x.Split)]
				deepest, isKnown = max(deepest, depth), depth > 0
			}
			if isKnown {
				depths[i] = deepest + 1
			}
		}
	}
	return depths
}

func modelDangling(conf []api.Resource) (api.Fault, bool) {
	for i, r := range conf {
		for j, x := range r.Targets {
			if r.Kind == 2 && (x.Service != "" && find(conf, 1, x.Service) < 0 || x.Service == "" && find(conf, 2, x.Split) < 0) {
				return api.Fault{Doc: i, Line: j + 1, Err: api.ErrDangling}, true
			}
		}
		for j, x := range r.Rules {
			if r.Kind == 3 && find(conf, 2, x.Split) < 0 {
				return api.Fault{Doc: i, Line: j + 1, Err: api.ErrDangling}, true
			}
		}
		if r.Kind == 4 && find(conf, 3, r.Route) < 0 {
			return api.Fault{Doc: i, Err: api.ErrDangling}, true
		}
	}
	return api.Fault{}, false
}

func modelFault(conf []api.Resource) api.Fault {
	for i := range conf {
		if !modelOrdered(conf[:i+1]) {
			return api.Fault{Doc: i, Err: api.ErrArg}
		}
	}
	if len(conf) > 64 {
		return api.Fault{Err: api.ErrCount}
	}
	if fault, is := modelDangling(conf); is {
		return fault
	}
	for i, r := range conf {
		for _, other := range conf[:i] {
			if r.Kind == 3 && other.Kind == 3 && r.Host == other.Host {
				return api.Fault{Doc: i, Err: api.ErrHost}
			}
		}
	}
	for i, r := range conf {
		sum, isWrong := 0.0, false
		for _, x := range r.Targets {
			sum += x.Weight
			isWrong = isWrong || math.IsNaN(x.Weight) || x.Weight < 0 || x.Weight > 100
		}
		if r.Kind == 2 && (isWrong || math.Abs(sum-100) > math.Ldexp(1, -20)) {
			return api.Fault{Doc: i, Err: api.ErrWeights}
		}
	}
	for i, depth := range modelDepths(conf) {
		if conf[i].Kind == 2 && (depth == 0 || depth > 8) {
			return api.Fault{Doc: i, Err: api.ErrRing}
		}
	}
	return api.Fault{}
}

func modelWarnings(conf []api.Resource) []check.Warning {
	var out []check.Warning
	for i, r := range conf {
		for j, rule := range r.Rules {
			by := slices.IndexFunc(r.Rules[:j], func(x api.Rule) bool {
				return (x.Method == rule.Method || x.Method == "*") && paths.CoversPath(x.Path, rule.Path)
			})
			if r.Kind >= 3 && by >= 0 {
				out = append(out, check.Warning{Doc: i, Rule: j, By: by})
			}
		}
	}
	return out
}

// The parts of which configurations are drawn: few, so that names meet.
var (
	someNames   = []string{"", "a", "b", "c", "A", "ab", "\xff"}
	someHosts   = []string{"", "*", "h", "H", "*.h", "g.h"}
	somePaths   = []string{"*", "/", "/a", "/a*", "/ab", "/ab*", "a", ""}
	someMethods = []string{"GET", "PUT", "*", "get", ""}
	someWeights = []float64{0, math.Copysign(0, -1), 100, 50, 25, 99.9999995, -1, 101, math.NaN(), math.Inf(1)}
)

func one[T any](r *rand.Rand, l []T) T { return l[r.Intn(len(l))] }

// anyResource: of any kind, with whatever fields.
func anyResource(r *rand.Rand) api.Resource {
	x := api.Resource{Kind: 1 + r.Intn(4), Name: one(r, someNames), Host: one(r, someHosts), Route: one(r, someNames)}
	for range r.Intn(3) {
		x.Endpoints = append(x.Endpoints, one(r, someNames))
	}
	for range r.Intn(3) {
		x.Targets = append(x.Targets, api.Target{Service: one(r, someNames), Split: one(r, someNames), Weight: one(r, someWeights)})
	}
	for range r.Intn(4) {
		x.Rules = append(x.Rules, api.Rule{Path: one(r, somePaths), Method: one(r, someMethods), Split: one(r, someNames), Allow: r.Intn(2) == 0})
	}
	if r.Intn(12) == 0 {
		x.Delete = true
	}
	if r.Intn(25) == 0 {
		x.Kind = one(r, []int{-1, 0, 5, 1 << 40})
	}
	return x
}

func anyList(r *rand.Rand, n int) []api.Resource {
	var l []api.Resource
	for range r.Intn(n + 1) {
		l = append(l, anyResource(r))
	}
	return l
}

// orderly: a list in order.
func orderly(r *rand.Rand, n int) []api.Resource {
	var l []api.Resource
	for _, x := range anyList(r, n) {
		x.Delete = false
		if x.Kind >= 1 && x.Kind <= 4 && find(l, x.Kind, x.Name) < 0 {
			l = put(l, x)
		}
	}
	return l
}

// fitting: a list in order of which nearly all names are there, nearly all weights right.
func fitting(r *rand.Rand) []api.Resource {
	var l []api.Resource
	named := func(kind int) string {
		var names []string
		for _, x := range l {
			if x.Kind == kind {
				names = append(names, x.Name)
			}
		}
		if len(names) == 0 || r.Intn(60) == 0 {
			return one(r, someNames)
		}
		return one(r, names)
	}
	for kind, most := range []int{3, 12, 4, 3} {
		for i := range r.Intn(most + 1) {
			l = append(l, api.Resource{Kind: kind + 1, Name: string([]byte{'a' + byte(i)})})
		}
	}
	isBack := r.Intn(2) == 0
	for i := range l {
		x := &l[i]
		switch x.Kind {
		case api.Split:
			x.Targets = fittingTargets(r, named, x.Name, isBack)
		case api.Route:
			x.Host = one(r, someHosts)
			if r.Intn(4) > 0 {
				x.Host = x.Name
			}
		case api.Policy:
			x.Route = named(api.Route)
		}
		for range r.Intn(5) {
			x.Rules = append(x.Rules, api.Rule{Path: one(r, somePaths), Method: one(r, someMethods), Split: named(api.Split), Allow: r.Intn(2) == 0})
		}
	}
	return l
}

// fittingTargets: mostly to services and to splits behind, or ahead, so that chains grow and rings are few.
func fittingTargets(r *rand.Rand, named func(int) string, name string, isBack bool) []api.Target {
	n := 1 + r.Intn(3)
	targets := make([]api.Target, n)
	for i := range targets {
		targets[i].Weight = 100 / float64(n)
		to := named(api.Split)
		if r.Intn(12) > 0 && (to == name || to > name != isBack) || r.Intn(3) == 0 {
			targets[i].Service = named(api.Service)
		} else {
			targets[i].Split = to
		}
	}
	if r.Intn(50) == 0 {
		targets[0].Weight = one(r, someWeights)
	}
	return targets
}

// P14.1: against the model.
func TestMergeAgainstModel(t *testing.T) {
	r := rand.New(rand.NewSource(1))
	count := map[api.Errno]int{}
	for range 30000 {
		conf, docs := orderly(r, 12), anyList(r, 5)
		if r.Intn(10) == 0 {
			conf = anyList(r, 4)
		}
		got, at, err := check.Merge(conf, docs)
		want, wantAt, wantErr := modelMerge(conf, docs)
		if !isList(got, want) || at != wantAt || err != wantErr {
			t.Fatalf("Merge(%v, %v): %v, %d, %d, want %v, %d, %d", conf, docs, got, at, err, want, wantAt, wantErr)
		}
		count[err]++
	}
	for _, err := range []api.Errno{api.OK, api.ErrArg, api.ErrTwice, api.ErrDelete} {
		if count[err] < 100 {
			t.Errorf("%d times %d", count[err], err)
		}
	}
}

// P14.2: against the model.
func TestCheckAgainstModel(t *testing.T) {
	r := rand.New(rand.NewSource(2))
	count := map[api.Errno]int{}
	warned := 0
	for i := range 60000 {
		conf := fitting(r)
		if i%20 == 0 {
			conf = orderly(r, 9)
		}
		if i%100 == 0 {
			conf = anyList(r, 3)
		}
		got, fault := check.Check(conf)
		want, wantFault := []check.Warning(nil), modelFault(conf)
		if wantFault.Err == api.OK {
			want = modelWarnings(conf)
		}
		if !slices.Equal(got, want) || fault != wantFault {
			t.Fatalf("Check(%v): %v, %v, want %v, %v", conf, got, fault, want, wantFault)
		}
		count[fault.Err]++
		warned += len(got)
	}
	for _, err := range []api.Errno{api.OK, api.ErrArg, api.ErrDangling, api.ErrHost, api.ErrWeights, api.ErrRing} {
		if count[err] < 100 {
			t.Errorf("%d times %d", count[err], err)
		}
	}
	if warned < 1000 {
		t.Errorf("%d warnings", warned)
	}
}

// P14.2, 5: all graphs of four splits, each of which may name each, against the model.
func TestRingsAgainstModel(t *testing.T) {
	names := []string{"p", "q", "r", "s"}
	for graph := range 1 << 16 {
		conf := list(service("a"))
		for i, name := range names {
			var targets []api.Target
			for j, to := range names {
				if graph>>(4*i+j)&1 == 1 {
					targets = append(targets, toSplit(to, 0))
				}
			}
			conf = append(conf, split(name, append(targets, toService("a", 100))...))
		}
		if _, fault := check.Check(conf); fault != modelFault(conf) {
			t.Fatalf("graph %x: %v", graph, fault)
		}
	}
}

// P14.2, 5: splits that name some of the next ones, few of them an earlier one, against the model.
func TestDepthsAgainstModel(t *testing.T) {
	r := rand.New(rand.NewSource(8))
	count := map[api.Errno]int{}
	for range 4000 {
		n := 5 + r.Intn(12)
		numbers := r.Perm(n)
		conf := list(service("a"))
		for i := range n {
			targets := []api.Target{toService("a", 100)}
			for range r.Intn(4) {
				to := min(i+1+r.Intn(4), n-1)
				if to == i || r.Intn(200) == 0 {
					to = r.Intn(n)
				}
				targets = append(targets, toSplit(link(numbers[to]), 0))
			}
			conf = put(conf, split(link(numbers[i]), targets...))
		}
		_, fault := check.Check(conf)
		if fault != modelFault(conf) {
			t.Fatalf("Check(%v): %v, want %v", conf, fault, modelFault(conf))
		}
		count[fault.Err]++
	}
	if count[api.OK] < 500 || count[api.ErrRing] < 500 {
		t.Error(count)
	}
}

// P14.3, P14.4: against the model, of any lists.
func TestDiffAgainstModel(t *testing.T) {
	r := rand.New(rand.NewSource(3))
	for range 30000 {
		from, to := anyList(r, 6), anyList(r, 6)
		if len(from) > 0 {
			to = append(to, one(r, from))
			r.Shuffle(len(to), func(i, j int) { to[i], to[j] = to[j], to[i] })
		}
		if got, want := check.Diff(from, to), modelDiff(from, to); !isList(got, want) {
			t.Fatalf("Diff(%v, %v): %v, want %v", from, to, got, want)
		}
		if got := check.Ordered(to); got != modelOrdered(to) {
			t.Fatalf("Ordered(%v): %v", to, got)
		}
		a, b := anyResource(r), anyResource(r)
		if check.Same(a, b) != modelSame(a, b) || !check.Same(a, a) {
			t.Fatalf("Same(%v, %v)", a, b)
		}
	}
}
