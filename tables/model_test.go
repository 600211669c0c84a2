package tables_test

import (
	"math"
	"math/rand"
	"slices"
	"testing"

	"turnpike/api"
	"turnpike/check"
	"turnpike/paths"
	"turnpike/tables"
)

// The model goes through everything as the chapter's words read, without maps and without recursion.

// find: the place of the resource of that kind and name; -1, if there is none.
func find(conf []api.Resource, kind int, name string) int {
	return slices.IndexFunc(conf, func(r api.Resource) bool { return r.Kind == kind && r.Name == name })
}

// plus: the list with x added to the service's real.
func plus(l []api.Share, service string, x float64) []api.Share {
	for i := range l {
		if l[i].Service == service {
			l[i].Upto = l[i].Upto + x
			return l
		}
	}
	return append(l, api.Share{Service: service, Upto: 0 + x})
}

// modelShares: the shares of all splits, each at its resource's place; found round by round, those first that name no split.
func modelShares(conf []api.Resource) [][]api.Share {
	shares := make([][]api.Share, len(conf))
	for range conf {
		for i, r := range conf {
			var l []api.Share
			isKnown := r.Kind == api.Split
			for _, x := range r.Targets {
				w := x.Weight / 100
				if x.Service != "" {
					l = plus(l, x.Service, w)
					continue
				}
				of := shares[find(conf, api.Split, x.Split)]
				isKnown = isKnown && of != nil
				for _, s := range of {
					product := float64(w * s.Upto)
					l = plus(l, s.Service, product)
				}
			}
			if isKnown {
				shares[i] = l
			}
		}
	}
	return shares
}

func modelSteps(l []api.Share) []api.Share {
	l = slices.DeleteFunc(slices.Clone(l), func(s api.Share) bool { return !(s.Upto > 0) })
	for i := range l {
		if i > 0 {
			l[i].Upto = l[i-1].Upto + l[i].Upto
		}
	}
	if len(l) > 0 {
		l[len(l)-1].Upto = 1
	}
	return l
}

// modelTables: each route is put ahead of the first that it stands ahead of.
func modelTables(version int, conf []api.Resource) api.Tables {
	out := api.Tables{Version: version}
	shares := modelShares(conf)
	for _, r := range conf {
		switch r.Kind {
		case api.Service:
			out.Services = append(out.Services, r.Name)
		case api.Route:
			h := api.Host{Host: r.Host, Route: r.Name}
			for _, rule := range r.Rules {
				l := modelSteps(shares[find(conf, api.Split, rule.Split)])
				h.Entries = append(h.Entries, api.Entry{Path: rule.Path, Method: rule.Method, Shares: l})
			}
			for _, p := range conf {
				if p.Kind != api.Policy || p.Route != r.Name {
					continue
				}
				for _, rule := range p.Rules {
					h.Permits = append(h.Permits, api.Permit{Path: rule.Path, Method: rule.Method, Allow: rule.Allow})
				}
			}
			at := slices.IndexFunc(out.Hosts, func(other api.Host) bool { return paths.Order(r.Host, other.Host) < 0 })
			if at < 0 {
				at = len(out.Hosts)
			}
			out.Hosts = slices.Insert(out.Hosts, at, h)
		}
	}
	return out
}

func one[T any](r *rand.Rand, l []T) T { return l[r.Intn(len(l))] }

func someHosts() []string {
	return []string{"*", "*.a", "*.A", "a", "A", "b.a", "B.A", "*.b.a", "*.c.a", "c.b.a", "*.cc", "*.b", "x", "X.b.a", "", "a_b", "*.", "a*", "**"}
}

func somePaths() []string { return []string{"/", "/a", "/a*", "*", "/b*", "", "no path"} }

func someMethods() []string { return []string{"GET", "*", "POST", "", "get"} }

// parted: n weights that make 100, some of them 0 or very small.
func parted(r *rand.Rand, n int) []float64 {
	weights := make([]float64, n)
	left := 100.0
	for i := range n - 1 {
		switch r.Intn(5) {
		case 0:
			weights[i] = one(r, []float64{0, math.Copysign(0, -1), math.SmallestNonzeroFloat64, 0x1p-1060, 0x1p-900, 1e-300, 1e-20})
		case 1:
			weights[i] = math.Floor(left * r.Float64())
		default:
			weights[i] = left * r.Float64()
		}
		left = max(left-weights[i], 0)
	}
	weights[n-1] = left
	r.Shuffle(n, func(i, j int) { weights[i], weights[j] = weights[j], weights[i] })
	return weights
}

// letters: n names, in order, the first of them empty now and then.
func letters(r *rand.Rand, n int, mayBeEmpty bool) []string {
	var names []string
	for i := range n {
		names = append(names, string([]byte{'a' + byte(i)}))
	}
	if mayBeEmpty && n > 0 && r.Intn(10) == 0 {
		names[0] = ""
	}
	return names
}

// standing: a configuration that Check finds no fault with.
func standing(r *rand.Rand) []api.Resource {
	services, splits := letters(r, 1+r.Intn(5), false), letters(r, r.Intn(8), true)
	routes, policies := letters(r, r.Intn(7), true), letters(r, r.Intn(6), true)
	var conf []api.Resource
	for _, name := range services {
		conf = append(conf, service(name))
	}
	order := r.Perm(len(splits)) // a split names such as have a greater number alone
	for i, name := range splits {
		x := split(name)
		for _, w := range parted(r, 1+r.Intn(5)) {
			j := r.Intn(len(splits))
			if order[j] > order[i] {
				x.Targets = append(x.Targets, toSplit(splits[j], w))
			} else {
				x.Targets = append(x.Targets, api.Target{Service: one(r, services), Split: one(r, splits), Weight: w})
			}
		}
		conf = append(conf, x)
	}
	hosts := someHosts()
	r.Shuffle(len(hosts), func(i, j int) { hosts[i], hosts[j] = hosts[j], hosts[i] })
	for i, name := range routes {
		x := route(name, hosts[i])
		for range min(r.Intn(4), len(splits)) {
			x.Rules = append(x.Rules, api.Rule{Path: one(r, somePaths()), Method: one(r, someMethods()), Split: one(r, splits), Allow: r.Intn(2) == 0})
		}
		conf = append(conf, x)
	}
	for _, name := range policies {
		if len(routes) == 0 {
			break
		}
		x := policy(name, one(r, routes))
		for range r.Intn(4) {
			x.Rules = append(x.Rules, api.Rule{Path: one(r, somePaths()), Method: one(r, someMethods()), Allow: r.Intn(2) == 0})
		}
		conf = append(conf, x)
	}
	return conf
}

// P15.1, P15.2: against the model.
func TestAgainstModel(t *testing.T) {
	r := rand.New(rand.NewSource(1))
	through, hosts, permits := 0, 0, 0
	for i := range 20000 {
		conf := standing(r)
		if _, fault := check.Check(conf); fault != (api.Fault{}) {
			t.Fatalf("%v: %v", conf, fault)
		}
		want := modelTables(i+1, conf)
		if got, err := tables.Compile(i+1, conf); err != api.OK || !isTables(got, want) {
			t.Fatalf("Compile(%v): %v, %d, want %v", conf, got, err, want)
		}
		shares := modelShares(conf)
		for j, x := range conf {
			if x.Kind != api.Split {
				continue
			}
			if got, err := tables.Shares(conf, x.Name); err != api.OK || !isShares(got, shares[j]) {
				t.Fatalf("Shares(%v, %q): %v, %d, want %v", conf, x.Name, got, err, shares[j])
			}
			if slices.ContainsFunc(x.Targets, func(y api.Target) bool { return y.Service == "" }) {
				through++
			}
		}
		hosts += len(want.Hosts)
		for _, h := range want.Hosts {
			permits += len(h.Permits)
		}
	}
	if through < 10000 || hosts < 10000 || permits < 10000 {
		t.Error(through, hosts, permits)
	}
}

// P15.2: a configuration with a fault or two against Check.
func TestFaultsAgainstCheck(t *testing.T) {
	r := rand.New(rand.NewSource(2))
	count := map[api.Errno]int{}
	for range 20000 {
		conf := standing(r)
		if len(conf) > 1 {
			spoil(r, conf)
		}
		_, fault := check.Check(conf)
		count[fault.Err]++
		got, err := tables.Compile(7, conf)
		if err != fault.Err || err != api.OK && !isTables(got, api.Tables{}) {
			t.Fatalf("Compile(%v): %v, %d, want %d", conf, got, err, fault.Err)
		}
		name := one(r, []string{"", "a", "b", "z"})
		want := fault.Err
		if want == api.OK && find(conf, api.Split, name) < 0 {
			want = api.ErrArg
		}
		if got, err := tables.Shares(conf, name); err != want || err != api.OK && len(got) != 0 {
			t.Fatalf("Shares(%v, %q): %v, %d, want %d", conf, name, got, err, want)
		}
	}
	for _, err := range []api.Errno{api.OK, api.ErrArg, api.ErrDangling, api.ErrHost, api.ErrWeights, api.ErrRing} {
		if count[err] < 100 {
			t.Errorf("%d times %d", count[err], err)
		}
	}
}

// spoil changes something that may make a configuration faulty.
func spoil(r *rand.Rand, conf []api.Resource) {
	at := r.Intn(len(conf))
	x := &conf[at]
	switch {
	case r.Intn(4) == 0:
		other := r.Intn(len(conf))
		conf[at], conf[other] = conf[other], conf[at]
	case x.Kind == api.Split:
		y := &x.Targets[r.Intn(len(x.Targets))]
		switch r.Intn(3) {
		case 0:
			y.Service = "z"
		case 1:
			y.Service, y.Split = "", x.Name
		case 2:
			y.Weight = one(r, []float64{math.NaN(), -1, 101, math.Inf(1), 50})
		}
	case x.Kind == api.Route:
		x.Host = one(r, conf).Host
	case x.Kind == api.Policy:
		x.Route = "z"
	}
}
