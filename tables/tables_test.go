package tables_test

import (
	"math"
	"slices"
	"strings"
	"testing"

	"turnpike/api"
	"turnpike/tables"
)

func service(name string) api.Resource { return api.Resource{Kind: api.Service, Name: name} }

func split(name string, targets ...api.Target) api.Resource {
	return api.Resource{Kind: api.Split, Name: name, Targets: targets}
}

func route(name, host string, rules ...api.Rule) api.Resource {
	return api.Resource{Kind: api.Route, Name: name, Host: host, Rules: rules}
}

func policy(name, of string, rules ...api.Rule) api.Resource {
	return api.Resource{Kind: api.Policy, Name: name, Route: of, Rules: rules}
}

func toService(name string, weight float64) api.Target {
	return api.Target{Service: name, Weight: weight}
}

func toSplit(name string, weight float64) api.Target {
	return api.Target{Split: name, Weight: weight}
}

func get(path, split string) api.Rule { return api.Rule{Path: path, Method: "GET", Split: split} }

func list(l ...api.Resource) []api.Resource { return l }

// example: the chapter's.
func example() []api.Resource {
	return list(
		service("a"), service("b"),
		split("s", toService("a", 50), toSplit("t", 50)),
		split("t", toService("a", 20), toService("b", 80)),
		route("q", "y.x"),
		route("r", "*.x", get("/p*", "s")),
		policy("p", "r", api.Rule{Path: "/p/x", Method: "*"}),
	)
}

// isTables: whether two tables are the same, told without the package under test.
func isTables(a, b api.Tables) bool {
	if a.Version != b.Version || len(a.Hosts) != len(b.Hosts) || !isNames(a.Services, b.Services) {
		return false
	}
	for i, h := range a.Hosts {
		other := b.Hosts[i]
		if h.Host != other.Host || h.Route != other.Route || len(h.Entries) != len(other.Entries) || len(h.Permits) != len(other.Permits) {
			return false
		}
		for j, e := range h.Entries {
			if e.Path != other.Entries[j].Path || e.Method != other.Entries[j].Method || !isShares(e.Shares, other.Entries[j].Shares) {
				return false
			}
		}
		for j, p := range h.Permits {
			if p != other.Permits[j] {
				return false
			}
		}
	}
	return true
}

func isNames(a, b []string) bool {
	return strings.Join(a, "\x00") == strings.Join(b, "\x00") && len(a) == len(b)
}

// isShares: reals bit by bit, but what is no number is as good as any such.
func isShares(a, b []api.Share) bool {
	return slices.EqualFunc(a, b, func(x, y api.Share) bool {
		isReal := math.Float64bits(x.Upto) == math.Float64bits(y.Upto) || math.IsNaN(x.Upto) && math.IsNaN(y.Upto)
		return x.Service == y.Service && isReal
	})
}

// P15.1: the chapter's example, whole.
func TestCompile(t *testing.T) {
	got, err := tables.Compile(3, example())
	want := api.Tables{
		Version: 3,
		Hosts: []api.Host{
			{Host: "y.x", Route: "q"},
			{
				Host: "*.x", Route: "r",
				Entries: []api.Entry{{Path: "/p*", Method: "GET", Shares: []api.Share{{Service: "a", Upto: 0.6}, {Service: "b", Upto: 1}}}},
				Permits: []api.Permit{{Path: "/p/x", Method: "*"}},
			},
		},
		Services: []string{"a", "b"},
	}
	if err != api.OK || !isTables(got, want) {
		t.Errorf("%v, %d", got, err)
	}
}

// P15.1: which versions there may be, and that they are looked at ahead of the configuration.
func TestCompileVersions(t *testing.T) {
	faulty := list(split("s", toService("c", 100)))
	for _, version := range []int{math.MinInt, -1 << 20, -1, 0, 1<<20 + 1, 1 << 32, math.MaxInt} {
		for _, conf := range [][]api.Resource{nil, example(), faulty} {
			if got, err := tables.Compile(version, conf); err != api.ErrArg || !isTables(got, api.Tables{}) {
				t.Errorf("version %d: %v, %d", version, got, err)
			}
		}
	}
	for _, version := range []int{1, 2, 1<<20 - 1, 1 << 20} {
		if got, err := tables.Compile(version, example()); err != api.OK || got.Version != version || len(got.Hosts) != 2 {
			t.Errorf("version %d: %v, %d", version, got, err)
		}
		if got, err := tables.Compile(version, nil); err != api.OK || !isTables(got, api.Tables{Version: version}) {
			t.Errorf("version %d of nothing: %v, %d", version, got, err)
		}
	}
}

// faults: a configuration for each of Check's errors.
func faults() map[string]struct {
	conf []api.Resource
	err  api.Errno
} {
	a := service("a")
	var many []api.Resource
	for i := range 65 {
		many = append(many, service(string([]byte{'a' + byte(i/26), 'a' + byte(i%26)})))
	}
	var deep []api.Resource
	for _, name := range "jihgfedcb" {
		deep = append(list(split(string(name), toSplit(string(name+1), 100))), deep...)
	}
	deep = append(append(list(a), deep...), split("k", toService("a", 100)))
	return map[string]struct {
		conf []api.Resource
		err  api.Errno
	}{
		"out of order":            {list(service("b"), a), api.ErrArg},
		"twice":                   {list(a, a), api.ErrArg},
		"kind 0":                  {list(api.Resource{Name: "a"}), api.ErrArg},
		"kind 5":                  {list(a, api.Resource{Kind: 5, Name: "a"}), api.ErrArg},
		"Delete":                  {list(api.Resource{Kind: 1, Name: "a", Delete: true}), api.ErrArg},
		"too many":                {many, api.ErrCount},
		"no such service":         {list(a, split("s", toService("c", 100))), api.ErrDangling},
		"no such split":           {list(a, split("s", toSplit("t", 100))), api.ErrDangling},
		"no such split of a rule": {list(a, route("r", "h", get("/", "s"))), api.ErrDangling},
		"no such route":           {list(a, policy("p", "r")), api.ErrDangling},
		"one host twice":          {list(route("q", "h"), route("r", "h")), api.ErrHost},
		"weights of 99":           {list(a, split("s", toService("a", 99))), api.ErrWeights},
		"no weights":              {list(a, split("s")), api.ErrWeights},
		"no number":               {list(a, split("s", toService("a", math.NaN()))), api.ErrWeights},
		"a weight below 0":        {list(a, split("s", toService("a", 101), toService("a", -1))), api.ErrWeights},
		"a split to itself":       {list(split("s", toSplit("s", 100))), api.ErrRing},
		"a ring":                  {list(split("s", toSplit("t", 100)), split("t", toSplit("s", 100))), api.ErrRing},
		"ten splits in a chain":   {deep, api.ErrRing},
	}
}

// P15.1, P15.2: the error of Check's fault, and nothing beside it.
func TestFaults(t *testing.T) {
	for name, x := range faults() {
		if got, err := tables.Compile(1, x.conf); err != x.err || !isTables(got, api.Tables{}) {
			t.Errorf("%s: Compile: %v, %d", name, got, err)
		}
		for _, of := range []string{"s", "zz"} {
			if got, err := tables.Shares(x.conf, of); err != x.err || len(got) != 0 {
				t.Errorf("%s: Shares of %s: %v, %d", name, of, got, err)
			}
		}
	}
}

// P15.1: the order of hosts, hosts as they are written, of one place by the routes' names.
func TestOrderOfHosts(t *testing.T) {
	conf := list(
		route("a", "*"), route("b", "*.x"), route("c", "*.a.x"), route("d", "B"), route("e", "a"), route("f", "b"),
		route("g", "*.b.X"), route("h", "no host"), route("i", ""), route("j", "*.X"), route("k", "A"), route("l", "*."),
	)
	got, err := tables.Compile(1, conf)
	if err != api.OK {
		t.Fatal(err)
	}
	var order []string
	for _, h := range got.Hosts {
		order = append(order, h.Route+" "+h.Host)
	}
	want := []string{"e a", "k A", "d B", "f b", "c *.a.x", "g *.b.X", "b *.x", "j *.X", "a *", "i ", "l *.", "h no host"}
	if !slices.Equal(order, want) {
		t.Errorf("%q", order)
	}
}

// P15.1: a route's rules as they stand, whatever they are; its policies by name, and each of their rules.
func TestEntriesAndPermits(t *testing.T) {
	rule := func(path, method string, allow bool) api.Rule {
		return api.Rule{Path: path, Method: method, Split: "none", Allow: allow}
	}
	conf := list(
		service("a"), service("b"),
		split("s", toService("b", 100)), split("t", toService("a", 0), toService("b", 25), toService("a", 75)),
		route("q", "q"),
		api.Resource{Kind: api.Route, Name: "r", Host: "r", Route: "q", Rules: []api.Rule{
			{Path: "/b", Method: "PUT", Split: "t", Allow: true}, get("/a", "s"), get("/a", "t"), {Path: "no path", Split: "s"},
		}},
		policy("a", "r", rule("/2", "GET", true), rule("/1", "*", false)),
		policy("b", "q", rule("/q", "*", true)),
		policy("c", "r"),
		policy("d", "r", rule("/2", "GET", false), rule("", "no method", true)),
	)
	got, err := tables.Compile(1, conf)
	b, ab := []api.Share{{Service: "b", Upto: 1}}, []api.Share{{Service: "a", Upto: 0.75}, {Service: "b", Upto: 1}}
	want := api.Tables{
		Version: 1,
		Hosts: []api.Host{
			{Host: "q", Route: "q", Permits: []api.Permit{{Path: "/q", Method: "*", Allow: true}}},
			{
				Host: "r", Route: "r",
				Entries: []api.Entry{
					{Path: "/b", Method: "PUT", Shares: ab}, {Path: "/a", Method: "GET", Shares: b},
					{Path: "/a", Method: "GET", Shares: ab}, {Path: "no path", Shares: b},
				},
				Permits: []api.Permit{
					{Path: "/2", Method: "GET", Allow: true}, {Path: "/1", Method: "*"},
					{Path: "/2", Method: "GET"}, {Method: "no method", Allow: true},
				},
			},
		},
		Services: []string{"a", "b"},
	}
	if err != api.OK || !isTables(got, want) {
		t.Errorf("%v, %d", got, err)
	}
}

// P15.1: services alone, and names that are empty or no names.
func TestServices(t *testing.T) {
	conf := list(service(""), service("B"), service("a"), service("a b"), service("\xff"), split("a", toService("a", 100)), route("b", "h"), policy("c", "b"))
	got, err := tables.Compile(1, conf)
	if err != api.OK || !slices.Equal(got.Services, []string{"", "B", "a", "a b", "\xff"}) {
		t.Errorf("%q, %d", got.Services, err)
	}
}

// P15.3: of any tables.
func TestFind(t *testing.T) {
	compiled, _ := tables.Compile(1, example())
	of := func(hosts ...string) api.Tables {
		var x api.Tables
		for _, h := range hosts {
			x.Hosts = append(x.Hosts, api.Host{Host: h})
		}
		return x
	}
	for name, x := range map[string]struct {
		t    api.Tables
		host string
		at   int
		is   bool
	}{
		"Y.X":                        {compiled, "Y.X", 0, true},
		"z.x":                        {compiled, "z.x", 1, true},
		"x":                          {compiled, "x", 0, false},
		"no host":                    {compiled, "z_.x", 0, false},
		"an empty host":              {compiled, "", 0, false},
		"a host with a port":         {compiled, "y.x:80", 0, false},
		"no tables":                  {api.Tables{}, "x", 0, false},
		"the first, not the best":    {of("*", "*.x", "a.x"), "a.x", 0, true},
		"the first of those that do": {of("b", "*.y", "*.x", "*", "a.x"), "A.x", 2, true},
		"alike":                      {of("b", "A", "a"), "a", 1, true},
		"no patterns":                {of("", "*.", "a b", "**", "a.*"), "a", 0, false},
		"past what is no pattern":    {of("", "a_", "a"), "a", 2, true},
		"all, but what is no host":   {of("*"), "a_b", 0, false},
		"a host of 64 bytes":         {of("a", "*"), strings.Repeat("a", 64), 1, true},
		"a host of 65 bytes":         {of("a", "*", strings.Repeat("a", 65)), strings.Repeat("a", 65), 0, false},
	} {
		if at, is := tables.Find(x.t, x.host); at != x.at || is != x.is {
			t.Errorf("%s: %d, %v", name, at, is)
		}
	}
}

// full: tables with two of everything, and reals at their edges.
func full() api.Tables {
	return api.Tables{
		Version: -7,
		Hosts: []api.Host{
			{
				Host: "h", Route: "r",
				Entries: []api.Entry{
					{Path: "/", Method: "GET", Shares: []api.Share{{Service: "a", Upto: 0}, {Service: "b", Upto: math.Inf(1)}}},
					{Path: "", Method: "*"},
				},
				Permits: []api.Permit{{Path: "/", Method: "GET", Allow: true}, {Path: "*"}},
			},
			{Host: "no host"},
		},
		Services: []string{"b", "a"},
	}
}

// P15.4: each part tells two tables apart; nil and empty lists are the same.
func TestSame(t *testing.T) {
	if !tables.Same(full(), full()) || !tables.Same(api.Tables{}, api.Tables{}) {
		t.Error("the same")
	}
	empty := api.Tables{Hosts: []api.Host{}, Services: []string{}}
	if !tables.Same(empty, api.Tables{}) || !tables.Same(api.Tables{}, empty) {
		t.Error("nil and empty lists")
	}
	within := full()
	within.Hosts[1].Entries, within.Hosts[1].Permits, within.Hosts[0].Entries[1].Shares = []api.Entry{}, []api.Permit{}, []api.Share{}
	if !tables.Same(within, full()) || !tables.Same(full(), within) {
		t.Error("nil and empty lists within")
	}
	for i, change := range []func(*api.Tables){
		func(x *api.Tables) { x.Version = 7 },
		func(x *api.Tables) { x.Services = x.Services[:1] },
		func(x *api.Tables) { x.Services = nil },
		func(x *api.Tables) { x.Services = append(x.Services, "") },
		func(x *api.Tables) { slices.Reverse(x.Services) },
		func(x *api.Tables) { x.Hosts = x.Hosts[:1] },
		func(x *api.Tables) { x.Hosts = nil },
		func(x *api.Tables) { x.Hosts = append(x.Hosts, api.Host{}) },
		func(x *api.Tables) { slices.Reverse(x.Hosts) },
		func(x *api.Tables) { x.Hosts[0].Host = "H" },
		func(x *api.Tables) { x.Hosts[1].Route = "s" },
		func(x *api.Tables) { x.Hosts[0].Entries = nil },
		func(x *api.Tables) { x.Hosts[1].Entries = make([]api.Entry, 1) },
		func(x *api.Tables) { slices.Reverse(x.Hosts[0].Entries) },
		func(x *api.Tables) { x.Hosts[0].Entries[1].Path = "/" },
		func(x *api.Tables) { x.Hosts[0].Entries[0].Method = "*" },
		func(x *api.Tables) { x.Hosts[0].Entries[0].Shares = nil },
		func(x *api.Tables) { x.Hosts[0].Entries[1].Shares = make([]api.Share, 1) },
		func(x *api.Tables) { slices.Reverse(x.Hosts[0].Entries[0].Shares) },
		func(x *api.Tables) { x.Hosts[0].Entries[0].Shares[1].Service = "c" },
		func(x *api.Tables) { x.Hosts[0].Entries[0].Shares[0].Upto = math.SmallestNonzeroFloat64 },
		func(x *api.Tables) { x.Hosts[0].Entries[0].Shares[1].Upto = math.MaxFloat64 },
		func(x *api.Tables) { x.Hosts[0].Permits = nil },
		func(x *api.Tables) { x.Hosts[1].Permits = make([]api.Permit, 1) },
		func(x *api.Tables) { slices.Reverse(x.Hosts[0].Permits) },
		func(x *api.Tables) { x.Hosts[0].Permits[0].Path = "" },
		func(x *api.Tables) { x.Hosts[0].Permits[1].Method = "*" },
		func(x *api.Tables) { x.Hosts[0].Permits[0].Allow = false },
	} {
		x := full()
		change(&x)
		if tables.Same(full(), x) || tables.Same(x, full()) || !tables.Same(x, x) {
			t.Errorf("change %d", i)
		}
	}
}

// P15.4: reals by ==, even of tables that are one and the same.
func TestSameReals(t *testing.T) {
	x, y := full(), full()
	x.Hosts[0].Entries[0].Shares[0].Upto = math.Copysign(0, -1)
	if !tables.Same(x, y) || !tables.Same(y, x) {
		t.Error("-0 is 0")
	}
	x.Hosts[0].Entries[0].Shares[1].Upto = math.NaN()
	if tables.Same(x, x) || tables.Same(x, y) || tables.Same(x, tables.Copy(x)) {
		t.Error("no number is unlike itself")
	}
}

// P15.4: all parts are copied, of any tables.
func TestCopy(t *testing.T) {
	none := full()
	none.Hosts[0].Entries[0].Shares[0].Upto = math.NaN()
	below := full()
	below.Hosts[0].Entries[0].Shares[0].Upto = math.Copysign(0, -1)
	for i, x := range []api.Tables{{}, full(), none, below, {Version: math.MinInt}, {Services: []string{""}}, {Hosts: make([]api.Host, 100)}} {
		if got := tables.Copy(x); !isTables(got, x) {
			t.Errorf("%d: %v", i, got)
		}
	}
}
