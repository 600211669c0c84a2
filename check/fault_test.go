package check_test

import (
	"math"
	"slices"
	"strconv"
	"testing"

	"turnpike/api"
	"turnpike/check"
)

func get(path, to string) api.Rule { return api.Rule{Path: path, Method: "GET", Split: to} }

// wantFault: that fault of conf, and no warnings beside it.
func wantFault(t *testing.T, name string, conf []api.Resource, want api.Fault) {
	t.Helper()
	if got, fault := check.Check(conf); fault != want || len(got) != 0 && fault.Err != api.OK {
		t.Errorf("%s: %v, %v, want %v", name, got, fault, want)
	}
}

// P14.2, 1: what is out of order, which it is, and how many there are.
func TestOutOfOrder(t *testing.T) {
	a, b := service("a"), service("b")
	for name, x := range map[string]struct {
		conf []api.Resource
		doc  int
	}{
		"twice":                   {list(a, a), 1},
		"names":                   {list(b, a), 1},
		"kinds":                   {list(a, b, split("s"), b), 3},
		"the first of two":        {list(b, a, b, a), 1},
		"Delete ahead":            {list(gone(1, "a"), b), 0},
		"Delete behind":           {list(a, gone(1, "b")), 1},
		"kind 0":                  {list(api.Resource{Name: "a"}, a), 0},
		"kind 5":                  {list(a, b, api.Resource{Kind: 5, Name: "a"}), 2},
		"kind 5 and 4":            {list(a, api.Resource{Kind: 5, Name: "a"}, policy("p", "r")), 1},
		"ahead of how many":       {append(many(80), a), 80},
		"ahead of what hangs":     {list(split("s", toSplit("x", 1)), a), 1},
		"a name behind its begin": {list(service("ab"), service("a")), 1},
	} {
		wantFault(t, name, x.conf, api.Fault{Doc: x.doc, Err: api.ErrArg})
	}
	wantFault(t, "none", nil, api.Fault{})
	wantFault(t, "64", many(64), api.Fault{})
	wantFault(t, "65", many(65), api.Fault{Err: api.ErrCount})
	wantFault(t, "65, and what hangs", append(many(64), split("s", toSplit("x", 1))), api.Fault{Err: api.ErrCount})
}

// P14.2, 2: what is named and isn't there, by the resource and its target or rule.
func TestDangling(t *testing.T) {
	a := service("a")
	s := split("s", toService("a", 100))
	r := route("r", "h", get("/", "s"))
	for name, x := range map[string]struct {
		conf      []api.Resource
		doc, line int
	}{
		"a service":                   {list(split("s", toService("a", 100))), 0, 1},
		"a second target":             {list(a, split("s", toService("a", 50), toService("b", 50))), 1, 2},
		"a split's name as a service": {list(a, s, split("t", toService("a", 1), toService("a", 1), toService("s", 98))), 2, 3},
		"a service's name as a split": {list(a, s, split("t", toSplit("a", 100))), 2, 1},
		"a split":                     {list(a, split("s", toService("a", 50), toSplit("x", 50))), 1, 2},
		"a target with no name":       {list(a, split("s", api.Target{Weight: 100})), 1, 1},
		"the Service counts first":    {list(a, s, split("t", api.Target{Service: "x", Split: "s", Weight: 100})), 2, 1},
		"a rule's split":              {list(a, s, route("r", "h", get("/", "s"), get("/x", "t"))), 2, 2},
		"a rule's service":            {list(a, s, route("r", "h", get("/", "a"))), 2, 1},
		"a rule's route":              {list(a, s, route("r", "h", get("/", "s"), get("/", "s"), get("/", "r"))), 2, 3},
		"a rule with no name":         {list(a, s, route("r", "h", get("/", ""))), 2, 1},
		"a policy's route":            {list(a, s, r, policy("p", "q")), 3, 0},
		"a policy's split":            {list(a, s, r, policy("p", "s")), 3, 0},
		"a policy's policy":           {list(a, s, r, policy("p", "p")), 3, 0},
		"a policy of no name":         {list(a, s, r, policy("p", "")), 3, 0},
		"the first of several":        {list(a, s, route("q", "g", get("/", "x")), route("r", "h", get("/", "y")), policy("p", "q")), 2, 1},
		"letters are bytes":           {list(a, split("s", toService("A", 100))), 1, 1},
		"ahead of hosts":              {list(a, s, route("q", "h"), route("r", "h"), policy("p", "x")), 4, 0},
		"ahead of weights and rings":  {list(a, split("s", toSplit("s", 7)), policy("p", "x")), 2, 0},
	} {
		wantFault(t, name, x.conf, api.Fault{Doc: x.doc, Line: x.line, Err: api.ErrDangling})
	}
}

// P14.2, 2: what is there, and fields that count for nothing in a resource of that kind.
func TestNotDangling(t *testing.T) {
	a, s := service("a"), split("s", toService("a", 100))
	stray := api.Resource{Targets: []api.Target{toSplit("x", 300)}, Host: "h", Route: "x", Rules: []api.Rule{get("/", "x")}}
	as := func(kind int) api.Resource {
		r := stray
		r.Kind, r.Name = kind, "z"
		return r
	}
	strayRoute, strayPolicy := as(api.Route), as(api.Policy)
	strayRoute.Rules = nil
	strayPolicy.Route = "z"
	straySplit := as(api.Split)
	straySplit.Targets = []api.Target{{Service: "a", Split: "x", Weight: 100}}
	for name, conf := range map[string][]api.Resource{
		"a later split":                 {a, split("s", toSplit("t", 100)), split("t", toService("a", 100))},
		"names that are empty":          {service("y"), split("", toSplit("x", 100)), split("x", toService("y", 100)), route("", "", get("/", "")), policy("", "")},
		"a service with all fields":     {as(api.Service)},
		"a split with all fields":       {a, straySplit},
		"a route with all fields":       {strayRoute},
		"a policy with all fields":      {route("z", "h"), strayPolicy},
		"a Split beside a Service":      {a, s, split("t", api.Target{Service: "a", Split: "x", Weight: 100})},
		"itself beside a Service":       {a, split("s", api.Target{Service: "a", Split: "s", Weight: 100})},
		"a route without rules":         {route("r", "h")},
		"a policy without rules":        {route("r", "h"), policy("p", "r")},
		"several policies of a route":   {route("r", "h"), policy("p", "r"), policy("q", "r")},
		"one name of all kinds":         {service("n"), split("n", toService("n", 100)), route("n", "h", get("/", "n")), policy("n", "n")},
		"one target many times":         {a, split("s", toService("a", 50), toService("a", 25), toService("a", 25))},
		"a policy's Host, as a route's": {route("r", "h"), {Kind: api.Policy, Name: "p", Host: "h", Route: "r"}},
	} {
		wantFault(t, name, conf, api.Fault{})
	}
}

// P14.2, 3: hosts of routes, as they are written.
func TestHostTwice(t *testing.T) {
	a, s := service("a"), split("s", toService("a", 100))
	for name, x := range map[string]struct {
		conf []api.Resource
		want api.Fault
	}{
		"twice":               {list(a, s, route("q", "*"), route("r", "*")), api.Fault{Doc: 3, Err: api.ErrHost}},
		"apart":               {list(route("q", "h"), route("r", "g"), route("s", "h"), route("t", "g")), api.Fault{Doc: 2, Err: api.ErrHost}},
		"no host":             {list(route("q", ""), route("r", "")), api.Fault{Doc: 1, Err: api.ErrHost}},
		"unlike":              {list(route("q", "h"), route("r", "*.h"), route("s", "*"), route("t", "h.")), api.Fault{}},
		"letters":             {list(route("q", "h"), route("r", "H")), api.Fault{}},
		"of other kinds":      {list(api.Resource{Kind: 1, Name: "a", Host: "h"}, api.Resource{Kind: 1, Name: "b", Host: "h"}, route("r", "h")), api.Fault{}},
		"ahead of weights":    {list(a, split("s"), route("q", "h"), route("r", "h")), api.Fault{Doc: 3, Err: api.ErrHost}},
		"ahead of rings":      {list(split("s", toSplit("s", 100)), route("q", "h"), route("r", "h")), api.Fault{Doc: 2, Err: api.ErrHost}},
		"behind what hangs":   {list(route("q", "h"), route("r", "h"), route("s", "g", get("/", "x"))), api.Fault{Doc: 2, Line: 1, Err: api.ErrDangling}},
		"the second of three": {list(route("q", "h"), route("r", "h"), route("s", "h")), api.Fault{Doc: 1, Err: api.ErrHost}},
	} {
		wantFault(t, name, x.conf, x.want)
	}
}

// P14.2, 4: each weight's bounds, the sum's bounds at their last bits, and that it is added from the first on.
func TestWeights(t *testing.T) {
	low, high := 99.99999904632568359375, 100.00000095367431640625
	for name, x := range map[string]struct {
		weights []float64
		want    bool
	}{
		"none":                 {nil, false},
		"100":                  {[]float64{100}, true},
		"thirds":               {[]float64{33.3, 33.3, 33.4}, true},
		"99":                   {[]float64{99}, false},
		"noughts":              {[]float64{0, 0}, false},
		"100 and 0":            {[]float64{0, 100, 0}, true},
		"-0":                   {[]float64{math.Copysign(0, -1), 100}, true},
		"-0 behind":            {[]float64{100, math.Copysign(0, -1)}, true},
		"no number":            {[]float64{math.NaN()}, false},
		"no number and 100":    {[]float64{100, math.NaN()}, false},
		"infinity":             {[]float64{math.Inf(1)}, false},
		"minus infinity":       {[]float64{100, math.Inf(-1)}, false},
		"both infinities":      {[]float64{100, math.Inf(-1), math.Inf(1)}, false},
		"below 0":              {[]float64{-1, 100, 1}, false},
		"just below 0":         {[]float64{100, -math.SmallestNonzeroFloat64}, false},
		"above 100":            {[]float64{101}, false},
		"just above 100":       {[]float64{math.Nextafter(100, 101)}, false},
		"just below 100":       {[]float64{math.Nextafter(100, 99)}, true},
		"the lower bound":      {[]float64{low}, true},
		"below it":             {[]float64{math.Nextafter(low, 0)}, false},
		"the upper bound":      {[]float64{50, high - 50}, true},
		"above it":             {[]float64{50, math.Nextafter(high, 200) - 50}, false},
		"the bounds of halves": {[]float64{50, low - 50}, true},
		"below them":           {[]float64{50, math.Nextafter(low, 0) - 50}, false},
		"200":                  {[]float64{100, 100}, false},
		"many":                 {slices.Repeat([]float64{0.001}, 100000), true},
		"more":                 {slices.Repeat([]float64{0.001}, 100001), false},
	} {
		var targets []api.Target
		for _, w := range x.weights {
			targets = append(targets, toService("a", w))
		}
		want := api.Fault{}
		if !x.want {
			want = api.Fault{Doc: 1, Err: api.ErrWeights}
		}
		wantFault(t, name, list(service("a"), split("s", targets...)), want)
	}
}

// P14.2, 4: the same weights in two orders; only from the first on the sum is just within the bound.
func TestWeightsAreAddedInOrder(t *testing.T) {
	high := 100 + math.Ldexp(1, -20)
	tiny := math.Ldexp(1, -47)
	small := slices.Repeat([]float64{tiny}, 4)
	first := append([]float64{50, high - 50}, small...)
	last := append(slices.Clone(small), 50, high-50)
	for i, weights := range [][]float64{first, last} {
		var targets []api.Target
		for _, w := range weights {
			targets = append(targets, toService("a", w))
		}
		want := api.Fault{}
		if i == 1 {
			want = api.Fault{Doc: 1, Err: api.ErrWeights}
		}
		wantFault(t, "order "+strconv.Itoa(i), list(service("a"), split("s", targets...)), want)
	}
}

// P14.2, 4: which split it is, and what is ahead of it and behind it.
func TestWhichWeights(t *testing.T) {
	a, s := service("a"), split("s", toService("a", 100))
	wantFault(t, "the second", list(a, s, split("t", toSplit("s", 50)), split("u", toSplit("s", 1))), api.Fault{Doc: 2, Err: api.ErrWeights})
	wantFault(t, "behind what hangs", list(a, split("r", toSplit("r", 1)), split("t", toSplit("x", 99))), api.Fault{Doc: 2, Line: 1, Err: api.ErrDangling})
	wantFault(t, "ahead of an earlier ring", list(a, split("r", toSplit("r", 100)), split("u")), api.Fault{Doc: 2, Err: api.ErrWeights})
	wantFault(t, "of other kinds", list(api.Resource{Kind: api.Service, Name: "a", Targets: []api.Target{{Weight: 3}}}), api.Fault{})
}

// chain: splits s00, s01, .. each of which names the next one, the last one the service a.
func chain(n int) []api.Resource {
	l := list(service("a"))
	for i := range n {
		to := toSplit(link(i+1), 100)
		if i == n-1 {
			to = toService("a", 100)
		}
		l = append(l, split(link(i), to))
	}
	return l
}

func link(i int) string { return "s" + string([]byte{'0' + byte(i/10), '0' + byte(i%10)}) }

// P14.2, 5: rings, those that come into one, and how deep splits may be.
func TestRings(t *testing.T) {
	a := service("a")
	s, end := split("s", toSplit("t", 100)), split("t", toService("a", 100))
	for name, x := range map[string]struct {
		conf []api.Resource
		doc  int
	}{
		"itself":                {list(a, split("s", toSplit("s", 100))), 1},
		"two":                   {list(a, s, split("t", toSplit("s", 100))), 1},
		"the last one alone":    {list(a, s, end, split("u", toService("a", 50), toSplit("u", 50))), 3},
		"into a ring":           {list(a, split("r", toSplit("t", 100)), split("s", toService("a", 100)), split("t", toSplit("t", 100))), 1},
		"into a ring, behind":   {list(a, split("s", toService("a", 100)), split("t", toSplit("t", 100)), split("u", toSplit("t", 100))), 2},
		"by a second target":    {list(a, split("s", toSplit("t", 50), toSplit("u", 50)), end, split("u", toSplit("s", 100))), 1},
		"with a weight of 0":    {list(a, split("s", toService("a", 100), toSplit("s", 0))), 1},
		"a chain of 9":          {chain(9), 1},
		"a chain of 10":         {chain(10), 1},
		"a chain of 60":         {chain(60), 1},
		"a ring behind a chain": {append(chain(8), split("s99", toSplit("s99", 100))), 9},
		"a chain, backwards":    {append(backwards(9), split("z", toSplit("z", 100))), 9},
		"a ring of 63":          {ring(63), 1},
		"9, a service behind":   {append(chain(8), split("t", toSplit("s00", 50), toService("a", 50))), 9},
		"9, a split behind":     {append(chain(8), split("t", toSplit("s00", 50), toSplit("s07", 50))), 9},
		"9, a split ahead":      {append(chain(8), split("t", toSplit("s07", 50), toSplit("s00", 50))), 9},
	} {
		wantFault(t, name, x.conf, api.Fault{Doc: x.doc, Err: api.ErrRing})
	}
	for name, conf := range map[string][]api.Resource{
		"a chain of 8":        chain(8),
		"backwards":           backwards(8),
		"8 by two ways":       append(chain(7), split("t", toSplit("s00", 50), toSplit("s06", 50))),
		"two ways to one":     {a, split("s", toSplit("t", 50), toSplit("u", 50)), end, split("u", toSplit("t", 100))},
		"one many times":      {a, split("s", slices.Repeat([]api.Target{toSplit("t", 10)}, 10)...), end},
		"a split of its name": {service("s"), split("s", toService("s", 100))},
	} {
		wantFault(t, name, conf, api.Fault{})
	}
}

// backwards: a chain whose last split has the first name.
func backwards(n int) []api.Resource {
	l := list(service("a"), split(link(0), toService("a", 100)))
	for i := 1; i < n; i++ {
		l = append(l, split(link(i), toSplit(link(i-1), 100)))
	}
	return l
}

func ring(n int) []api.Resource {
	l := chain(n)
	l[n].Targets = []api.Target{toSplit(link(0), 100)}
	return l
}

// P14.2, 5, P0.1: each split names the next one eight times; the ways through them are not gone through one by one.
func TestManyWays(t *testing.T) {
	l := list(service("a"))
	for i := range 60 {
		targets := slices.Repeat([]api.Target{toSplit(link(i+1), 12.5)}, 8)
		if i == 59 {
			targets = []api.Target{toService("a", 100)}
		}
		l = append(l, split(link(i), targets...))
	}
	wantFault(t, "deep", l, api.Fault{Doc: 1, Err: api.ErrRing})
	l[60].Targets = slices.Repeat([]api.Target{toSplit(link(0), 12.5)}, 8)
	wantFault(t, "a ring", l, api.Fault{Doc: 1, Err: api.ErrRing})
}

// P14.2: rules that an earlier one covers, and the first that does.
func TestWarnings(t *testing.T) {
	a, s := service("a"), split("s", toService("a", 100))
	rule := func(path, method string) api.Rule { return api.Rule{Path: path, Method: method, Split: "s"} }
	for name, x := range map[string]struct {
		rules []api.Rule
		want  []check.Warning
	}{
		"none":                      {nil, nil},
		"one":                       {[]api.Rule{rule("*", "*")}, nil},
		"covered":                   {[]api.Rule{rule("/a*", "GET"), rule("/ab", "GET")}, []check.Warning{{Rule: 1}}},
		"the other way":             {[]api.Rule{rule("/ab", "GET"), rule("/a*", "GET")}, nil},
		"the same":                  {[]api.Rule{rule("/a", "GET"), rule("/a", "GET")}, []check.Warning{{Rule: 1}}},
		"another method":            {[]api.Rule{rule("/a*", "GET"), rule("/ab", "POST")}, nil},
		"every method":              {[]api.Rule{rule("/a*", "*"), rule("/ab", "POST")}, []check.Warning{{Rule: 1}}},
		"every method later":        {[]api.Rule{rule("/a*", "GET"), rule("/ab", "*")}, nil},
		"both every method":         {[]api.Rule{rule("*", "*"), rule("/", "*")}, []check.Warning{{Rule: 1}}},
		"the first that does":       {[]api.Rule{rule("/b", "*"), rule("/a*", "GET"), rule("*", "*"), rule("/ab", "GET"), rule("/ac", "PUT")}, []check.Warning{{Rule: 3, By: 1}, {Rule: 4, By: 2}}},
		"one that is covered":       {[]api.Rule{rule("*", "*"), rule("/a*", "*"), rule("/ab", "*")}, []check.Warning{{Rule: 1}, {Rule: 2}}},
		"no pattern":                {[]api.Rule{rule("a", "GET"), rule("a", "GET"), rule("", "*"), rule("", "*")}, nil},
		"no pattern below a *":      {[]api.Rule{rule("*", "GET"), rule("a", "GET")}, nil},
		"a method that is none":     {[]api.Rule{rule("*", "get"), rule("/", "get"), rule("/", ""), rule("/", "")}, []check.Warning{{Rule: 1}, {Rule: 3, By: 2}}},
		"every and one that's none": {[]api.Rule{rule("*", "*"), rule("/", "")}, []check.Warning{{Rule: 1}}},
		"allow and split are none":  {[]api.Rule{{Path: "*", Method: "*", Allow: true, Split: "s"}, rule("/", "GET")}, []check.Warning{{Rule: 1}}},
	} {
		q := route("q", "g", rule("/x", "X"))
		conf := list(a, s, q, route("r", "h", x.rules...), policy("p", "r", x.rules...))
		var want []check.Warning
		for _, doc := range []int{3, 4} {
			for _, w := range x.want {
				w.Doc = doc
				want = append(want, w)
			}
		}
		if got, fault := check.Check(conf); !slices.Equal(got, want) || fault != (api.Fault{}) {
			t.Errorf("%s: %v, %v", name, got, fault)
		}
	}
}

// P14.2: rules of services and splits, and of another resource, are none.
func TestNoWarnings(t *testing.T) {
	rules := []api.Rule{{Path: "*", Method: "*", Split: "s"}, {Path: "*", Method: "*", Split: "s"}}
	a, s := service("a"), split("s", toService("a", 100))
	a.Rules, s.Rules = rules, rules
	conf := list(a, s, route("r", "h", rules[0]), route("t", "g", rules[0]), policy("p", "r", rules[0]), policy("q", "r", rules[0]))
	if got, fault := check.Check(conf); len(got) != 0 || fault != (api.Fault{}) {
		t.Errorf("%v, %v", got, fault)
	}
}
