package tables_test

import (
	"math"
	"math/rand"
	"slices"
	"testing"

	"turnpike/api"
	"turnpike/paths"
	"turnpike/tables"
)

// wantSteps: what P15.5 says of the steps of a list of shares.
func wantSteps(t *testing.T, l, steps []api.Share) {
	t.Helper()
	var above []string
	for _, s := range l {
		if s.Upto > 0 {
			above = append(above, s.Service)
		}
	}
	if len(steps) != len(above) {
		t.Fatalf("%v of %v", steps, l)
	}
	for i, s := range steps {
		isLast := i == len(steps)-1
		if s.Service != above[i] || isLast && s.Upto != 1 || !isLast && i > 0 && !(s.Upto >= steps[i-1].Upto) {
			t.Fatalf("%v of %v", steps, l)
		}
	}
}

// P15.5: of a configuration's steps.
func TestStepsOfTables(t *testing.T) {
	r := rand.New(rand.NewSource(3))
	for range 10000 {
		conf := standing(r)
		x, _ := tables.Compile(1, conf)
		for _, h := range x.Hosts {
			for i, e := range h.Entries {
				rule := conf[find(conf, api.Route, h.Route)].Rules[i]
				l, _ := tables.Shares(conf, rule.Split)
				wantSteps(t, l, e.Shares)
				if len(e.Shares) == 0 {
					t.Fatalf("%v: no steps", conf)
				}
				for _, s := range e.Shares {
					if find(conf, api.Service, s.Service) < 0 {
						t.Fatalf("%v: no service %q", conf, s.Service)
					}
				}
			}
		}
	}
}

// P15.5: of any list of shares.
func TestStepsOfAnyShares(t *testing.T) {
	r := rand.New(rand.NewSource(4))
	reals := []float64{0, math.Copysign(0, -1), 1, 0.5, 0.1, -1, math.NaN(), math.Inf(1), math.Inf(-1), math.SmallestNonzeroFloat64, math.MaxFloat64, 0x1p-53}
	for range 20000 {
		var l []api.Share
		for range r.Intn(8) {
			l = append(l, share(one(r, []string{"a", "b", "", "c"}), one(r, reals)))
		}
		got := tables.Steps(l)
		wantSteps(t, l, got)
		if !isShares(got, modelSteps(l)) {
			t.Fatalf("Steps(%v): %v", l, got)
		}
	}
}

// P15.6: a split that is all of another one, at once or in two halves.
func TestThrough(t *testing.T) {
	r := rand.New(rand.NewSource(5))
	halves := 0
	for range 10000 {
		conf := standing(r)
		last := len(conf)
		for last > 0 && conf[last-1].Kind > api.Split {
			last--
		}
		if conf[last-1].Kind != api.Split {
			continue
		}
		of := one(r, conf[:last])
		if of.Kind != api.Split {
			continue
		}
		want, _ := tables.Shares(conf, of.Name)
		// A split of the greatest depth may have no other one above it.
		more := slices.Insert(slices.Clone(conf), last, split("y", toSplit(of.Name, 100)), split("z", toSplit(of.Name, 50), toSplit(of.Name, 50)))
		got, err := tables.Shares(more, "y")
		if err == api.ErrRing {
			continue
		}
		if err != api.OK || !isShares(got, want) {
			t.Fatalf("all of %v: %v, %d, want %v", of, got, err, want)
		}
		if slices.ContainsFunc(want, func(s api.Share) bool { return s.Upto > 0 && s.Upto < 0x1p-1000 }) {
			continue
		}
		halves++
		if got, err := tables.Shares(more, "z"); err != api.OK || !isShares(got, want) {
			t.Fatalf("two halves of %v: %v, %d, want %v", of, got, err, want)
		}
	}
	if halves < 2000 {
		t.Errorf("%d in halves", halves)
	}
}

// P15.6: the least reals.
func TestThroughTheLeast(t *testing.T) {
	conf := list(
		service("a"), service("b"), service("c"),
		split("s", toService("a", 100*0x1p-1000), toService("b", 0), toService("c", 100)),
		split("t", toSplit("s", 50), toSplit("s", 50)),
		split("u", toService("a", 100*0x1p-1074), toService("c", 100)),
		split("v", toSplit("u", 100)),
	)
	least := []api.Share{share("a", 0x1p-1000), share("b", 0), share("c", 1)}
	for _, of := range []string{"s", "t"} {
		if got, err := tables.Shares(conf, of); err != api.OK || !isShares(got, least) {
			t.Errorf("%s: %v, %d", of, got, err)
		}
	}
	for _, of := range []string{"u", "v"} {
		if got, err := tables.Shares(conf, of); err != api.OK || !isShares(got, []api.Share{share("a", 0x1p-1074), share("c", 1)}) {
			t.Errorf("%s: %v, %d", of, got, err)
		}
	}
}

// P15.7: a policy, a service that no split names, another version.
func TestEachItsOwn(t *testing.T) {
	r := rand.New(rand.NewSource(6))
	policies := 0
	for range 5000 {
		conf := standing(r)
		was, _ := tables.Compile(1, conf)

		// Names from 'a' on are taken: "A" stands ahead of them, "zz" behind.
		more, _ := tables.Compile(1, slices.Insert(slices.Clone(conf), 0, service("A")))
		if more.Services[0] != "A" || len(more.Services) != len(was.Services)+1 {
			t.Fatalf("%v: %v", conf, more.Services)
		}
		more.Services = more.Services[1:]
		if !isTables(more, was) {
			t.Fatalf("%v with a service: %v", conf, more)
		}

		later, _ := tables.Compile(1+r.Intn(1<<20), conf)
		later.Version = 1
		if !isTables(later, was) {
			t.Fatalf("%v of another version: %v", conf, later)
		}

		if len(was.Hosts) == 0 {
			continue
		}
		policies++
		at := r.Intn(len(was.Hosts))
		guarded, err := tables.Compile(1, append(slices.Clone(conf), policy("zz", was.Hosts[at].Route, api.Rule{Path: "/zz", Method: "GET", Split: "none", Allow: true})))
		l := guarded.Hosts[at].Permits
		if err != api.OK || len(l) != len(was.Hosts[at].Permits)+1 || l[len(l)-1] != (api.Permit{Path: "/zz", Method: "GET", Allow: true}) {
			t.Fatalf("%v with a policy: %v, %d", conf, l, err)
		}
		guarded.Hosts[at].Permits = l[:len(l)-1]
		if !isTables(guarded, was) {
			t.Fatalf("%v with a policy: %v", conf, guarded)
		}
	}
	if policies < 1000 {
		t.Errorf("%d policies", policies)
	}
}

// P15.8: the host that Find says, and the one that Best says.
func TestTheFirstOne(t *testing.T) {
	r := rand.New(rand.NewSource(7))
	asked := append(someHosts(), "a.a", "C.b.a", "x.c.a", "q", "x.cc", "b.b", "z.x", ".a", "a.")
	found := 0
	for range 5000 {
		x, _ := tables.Compile(1, standing(r))
		var patterns []string
		for _, h := range x.Hosts {
			patterns = append(patterns, h.Host)
		}
		for _, host := range asked {
			at, is := tables.Find(x, host)
			want, wantIs := paths.Best(patterns, host)
			if at != want || is != wantIs {
				t.Fatalf("Find of %q in %q: %d, %v, want %d, %v", host, patterns, at, is, want, wantIs)
			}
			if is && at > 0 {
				found++
			}
		}
	}
	if found < 1000 {
		t.Errorf("%d found", found)
	}
}
