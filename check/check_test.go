package check_test

import (
	"math"
	"slices"
	"strings"
	"testing"

	"turnpike/api"
	"turnpike/check"
)

func service(name string, endpoints ...string) api.Resource {
	return api.Resource{Kind: api.Service, Name: name, Endpoints: endpoints}
}

func split(name string, targets ...api.Target) api.Resource {
	return api.Resource{Kind: api.Split, Name: name, Targets: targets}
}

func route(name, host string, rules ...api.Rule) api.Resource {
	return api.Resource{Kind: api.Route, Name: name, Host: host, Rules: rules}
}

func policy(name, of string, rules ...api.Rule) api.Resource {
	return api.Resource{Kind: api.Policy, Name: name, Route: of, Rules: rules}
}

func gone(kind int, name string) api.Resource {
	return api.Resource{Kind: kind, Name: name, Delete: true}
}

func toService(name string, weight float64) api.Target {
	return api.Target{Service: name, Weight: weight}
}

func toSplit(name string, weight float64) api.Target {
	return api.Target{Split: name, Weight: weight}
}

func list(l ...api.Resource) []api.Resource { return l }

// many: so many services, in order.
func many(n int) []api.Resource {
	var l []api.Resource
	for i := range n {
		l = append(l, service(string([]byte{'a' + byte(i/26), 'a' + byte(i%26)})))
	}
	return l
}

// isList: whether two lists have the same resources, told field by field without the package under test.
func isList(a, b []api.Resource) bool { return slices.EqualFunc(a, b, modelSame) }

// P14.1: the chapter's examples, each error, and of several the one that is named first.
func TestMerge(t *testing.T) {
	a, b := service("a", "e"), service("b")
	s := split("s", toService("a", 100))
	two := service("a", "f", "g")
	for name, x := range map[string]struct {
		conf, docs, want []api.Resource
		at               int
		err              api.Errno
	}{
		"nothing":                      {nil, nil, nil, 0, api.OK},
		"no document":                  {list(a, b), nil, list(a, b), 0, api.OK},
		"twice":                        {nil, list(a, a), nil, 1, api.ErrTwice},
		"twice, unlike":                {nil, list(b, a, two), nil, 2, api.ErrTwice},
		"deleted, then set":            {list(a), list(gone(1, "a"), a), nil, 1, api.ErrTwice},
		"set, then deleted":            {list(a), list(a, gone(1, "a")), nil, 1, api.ErrTwice},
		"deleted twice":                {list(a), list(gone(1, "a"), gone(1, "a")), nil, 1, api.ErrTwice},
		"deleted":                      {list(a), list(gone(1, "a")), nil, 0, api.OK},
		"one of three deleted":         {list(a, b, s), list(gone(1, "b")), list(a, s), 0, api.OK},
		"deleted, not there":           {list(a), list(gone(2, "s")), nil, 0, api.ErrDelete},
		"deleted, of another kind":     {list(a), list(b, gone(2, "a")), nil, 1, api.ErrDelete},
		"deleted, of another name":     {list(a), list(gone(1, "b")), nil, 0, api.ErrDelete},
		"deleted, new in documents":    {nil, list(a, gone(1, "a")), nil, 1, api.ErrTwice},
		"set":                          {list(a, b), list(two), list(two, b), 0, api.OK},
		"new ones":                     {list(b), list(s, a), list(a, b, s), 0, api.OK},
		"of one name, unlike kinds":    {list(service("s")), list(s, route("s", "h")), list(service("s"), s, route("s", "h")), 0, api.OK},
		"out of order":                 {list(b, a), nil, nil, 0, api.ErrArg},
		"one twice in the first":       {list(a, two), nil, nil, 0, api.ErrArg},
		"one with Delete in the first": {list(a, gone(2, "a")), nil, nil, 0, api.ErrArg},
		"out of order ahead of twice":  {list(s, b), list(a, a), nil, 0, api.ErrArg},
		"kind 0":                       {nil, list(a, b, api.Resource{Name: "x"}), nil, 2, api.ErrArg},
		"kind 5":                       {nil, list(a, api.Resource{Kind: 5}), nil, 1, api.ErrArg},
		"kind -1":                      {nil, list(api.Resource{Kind: -1}), nil, 0, api.ErrArg},
		"the kind ahead of twice":      {nil, list(gone(5, "a"), gone(5, "a")), nil, 0, api.ErrArg},
		"the kind ahead of delete":     {nil, list(a, gone(0, "a")), nil, 1, api.ErrArg},
		"twice ahead of delete":        {nil, list(b, gone(1, "b")), nil, 1, api.ErrTwice},
		"the first wrong document":     {list(a), list(gone(3, "x"), a, a, api.Resource{}), nil, 0, api.ErrDelete},
		"the second wrong one":         {list(a), list(a, a, gone(3, "x"), api.Resource{}), nil, 1, api.ErrTwice},
		"bytes, not letters":           {nil, list(service("b"), service("B"), service("aa"), service("\xff"), service("")), list(service(""), service("B"), service("aa"), service("b"), service("\xff")), 0, api.OK},
	} {
		got, at, err := check.Merge(x.conf, x.docs)
		if !isList(got, x.want) || at != x.at || err != x.err {
			t.Errorf("%s: %v, %d, %d", name, got, at, err)
		}
	}
}

// P14.1: how many there may be in the end, whatever there was.
func TestMergeCounts(t *testing.T) {
	all := many(70)
	for name, x := range map[string]struct {
		conf, docs []api.Resource
		n          int
		err        api.Errno
	}{
		"64":                     {all[:64], nil, 64, api.OK},
		"65":                     {all[:65], nil, 0, api.ErrCount},
		"63 and one":             {all[:63], all[63:64], 64, api.OK},
		"64 and one":             {all[:64], all[64:65], 0, api.ErrCount},
		"64 and one that is":     {all[:64], all[20:21], 64, api.OK},
		"none and 64":            {nil, all[:64], 64, api.OK},
		"none and 65":            {nil, all[:65], 0, api.ErrCount},
		"64, one more, one less": {all[:64], list(all[64], gone(1, all[0].Name)), 64, api.OK},
		"66, two less":           {all[:66], list(gone(1, all[65].Name), gone(1, all[7].Name)), 64, api.OK},
		"66, one less":           {all[:66], list(gone(1, all[65].Name)), 0, api.ErrCount},
		"70, and a wrong one":    {all, list(all[0], all[0]), 0, api.ErrTwice},
	} {
		got, at, err := check.Merge(x.conf, x.docs)
		if len(got) != x.n || err != x.err || err == api.ErrCount && at != 0 {
			t.Errorf("%s: %d, %d, %d", name, len(got), at, err)
		}
	}
}

// P14.3: the chapter's words, one by one; of any lists.
func TestDiff(t *testing.T) {
	a, b, two := service("a"), service("b", "e"), service("b", "f")
	s := split("s", toService("a", 100))
	odd := api.Resource{Kind: -7, Name: "odd", Host: "h"}
	for name, x := range map[string]struct{ from, to, want []api.Resource }{
		"nothing":                  {nil, nil, nil},
		"the same":                 {list(a, b, s), list(a, b, s), nil},
		"all new":                  {nil, list(a, s), list(a, s)},
		"all gone":                 {list(a, b, s), nil, list(gone(1, "a"), gone(1, "b"), gone(2, "s"))},
		"one gone, one another":    {list(a, b), list(two), list(gone(1, "a"), two)},
		"out of order":             {list(s, b), list(two, a), list(a, two, gone(2, "s"))},
		"the first counts":         {list(b, two), list(two, b), list(two)},
		"the first, alike":         {list(b, two), list(b, a, a), list(a)},
		"a later one of from":      {list(b, two), list(two), list(two)},
		"twice gone":               {list(b, two, a), list(a), list(gone(1, "b"))},
		"twice new":                {nil, list(two, b), list(two)},
		"Delete is a field":        {list(gone(1, "a")), list(a), list(a)},
		"Delete is new":            {list(a), list(gone(1, "a")), list(gone(1, "a"))},
		"Delete is gone":           {list(gone(1, "a")), nil, list(gone(1, "a"))},
		"both have Delete":         {list(gone(1, "a")), list(gone(1, "a")), nil},
		"any kinds":                {list(odd), list(api.Resource{Kind: 9}, a), list(gone(-7, "odd"), a, api.Resource{Kind: 9})},
		"a name, another kind":     {list(service("s")), list(s), list(gone(1, "s"), s)},
		"an empty name":            {list(service("")), list(split("")), list(gone(1, ""), split(""))},
		"-0 is 0":                  {list(split("s", toService("a", 0))), list(split("s", toService("a", math.Copysign(0, -1)))), nil},
		"no numbers are the same":  {list(split("s", toService("a", math.NaN()))), list(split("s", toService("a", -math.NaN()))), nil},
		"no number and a number":   {list(split("s", toService("a", math.NaN()))), list(split("s", toService("a", 1))), list(split("s", toService("a", 1)))},
		"fields of other kinds":    {list(a), list(api.Resource{Kind: 1, Name: "a", Route: "r"}), list(api.Resource{Kind: 1, Name: "a", Route: "r"})},
		"what is gone keeps none":  {list(odd, route("r", "h", api.Rule{Path: "/"})), nil, list(gone(-7, "odd"), gone(3, "r"))},
		"what is gone, with Route": {list(policy("p", "r")), list(policy("q", "r")), list(gone(4, "p"), policy("q", "r"))},
	} {
		if got := check.Diff(x.from, x.to); !isList(got, x.want) {
			t.Errorf("%s: %v", name, got)
		}
	}
}

// P14.4: each part of a resource tells two apart; nil and empty lists are the same.
func TestSame(t *testing.T) {
	full := func() api.Resource {
		return api.Resource{
			Kind: 3, Name: "n", Endpoints: []string{"e", "f"}, Host: "h", Route: "r", Delete: true,
			Targets: []api.Target{{Service: "a", Split: "s", Weight: 50}, {Service: "b", Weight: 50}},
			Rules:   []api.Rule{{Path: "/", Method: "GET", Split: "s", Allow: true}, {Path: "*"}},
		}
	}
	if !check.Same(full(), full()) || !check.Same(api.Resource{}, api.Resource{}) {
		t.Error("the same")
	}
	empty := api.Resource{Endpoints: []string{}, Targets: []api.Target{}, Rules: []api.Rule{}}
	if !check.Same(empty, api.Resource{}) || !check.Same(api.Resource{}, empty) {
		t.Error("nil and empty lists")
	}
	for i, change := range []func(*api.Resource){
		func(r *api.Resource) { r.Kind = 2 },
		func(r *api.Resource) { r.Name = "N" },
		func(r *api.Resource) { r.Host = "H" },
		func(r *api.Resource) { r.Route = "" },
		func(r *api.Resource) { r.Delete = false },
		func(r *api.Resource) { r.Endpoints = r.Endpoints[:1] },
		func(r *api.Resource) { r.Endpoints = nil },
		func(r *api.Resource) { r.Endpoints = append(r.Endpoints, "") },
		func(r *api.Resource) { slices.Reverse(r.Endpoints) },
		func(r *api.Resource) { r.Targets = r.Targets[:1] },
		func(r *api.Resource) { r.Targets = nil },
		func(r *api.Resource) { r.Targets = append(r.Targets, api.Target{}) },
		func(r *api.Resource) { slices.Reverse(r.Targets) },
		func(r *api.Resource) { r.Targets[0].Service = "" },
		func(r *api.Resource) { r.Targets[0].Split = "" },
		func(r *api.Resource) { r.Targets[1].Weight = math.Nextafter(50, 51) },
		func(r *api.Resource) { r.Targets[1].Weight = math.NaN() },
		func(r *api.Resource) { r.Rules = r.Rules[:1] },
		func(r *api.Resource) { r.Rules = nil },
		func(r *api.Resource) { r.Rules = append(r.Rules, api.Rule{}) },
		func(r *api.Resource) { slices.Reverse(r.Rules) },
		func(r *api.Resource) { r.Rules[1].Path = "/" },
		func(r *api.Resource) { r.Rules[0].Method = "*" },
		func(r *api.Resource) { r.Rules[0].Split = "t" },
		func(r *api.Resource) { r.Rules[0].Allow = false },
	} {
		r := full()
		change(&r)
		if check.Same(full(), r) || check.Same(r, full()) || !check.Same(r, r) {
			t.Errorf("change %d", i)
		}
	}
}

// P14.4: weights are equal, or both no numbers.
func TestSameWeights(t *testing.T) {
	nought, none := math.Copysign(0, -1), math.NaN()
	other := math.Float64frombits(math.Float64bits(none) ^ 1<<63 ^ 6)
	weights := []float64{none, other, 0, nought, 1, 100, math.Inf(1), math.Inf(-1), math.SmallestNonzeroFloat64}
	for i, x := range weights {
		for j, y := range weights {
			want := i == j || i < 2 && j < 2 || i/2 == 1 && j/2 == 1
			if check.Same(split("s", toService("a", x)), split("s", toService("a", y))) != want {
				t.Errorf("%v and %v", x, y)
			}
		}
	}
}

// P14.4: kinds, names and Delete.
func TestOrdered(t *testing.T) {
	for name, x := range map[string]struct {
		conf []api.Resource
		want bool
	}{
		"none":                  {nil, true},
		"an empty list":         {list(), true},
		"one of each kind":      {list(service("z"), split("y"), route("x", ""), policy("w", "")), true},
		"one name":              {list(service("a"), split("a"), route("a", ""), policy("a", "")), true},
		"names":                 {list(service(""), service("\x00"), service("A"), service("a"), service("a\x00"), service("aa"), service("b"), service("\xff")), true},
		"bytes, not letters":    {list(service("a"), service("B")), false},
		"a longer one first":    {list(service("aa"), service("a")), false},
		"kinds the wrong way":   {list(split("a"), service("b")), false},
		"names the wrong way":   {list(service("b"), service("a")), false},
		"the last one only":     {list(service("a"), service("b"), service("a")), false},
		"twice":                 {list(service("a"), service("a", "e")), false},
		"kind 0":                {list(api.Resource{Name: "a"}), false},
		"kind 5":                {list(policy("a", ""), api.Resource{Kind: 5, Name: "a"}), false},
		"kind -1":               {list(api.Resource{Kind: -1, Name: "a"}, service("a")), false},
		"kind 2^62":             {list(api.Resource{Kind: 1 << 62, Name: "a"}), false},
		"Delete":                {list(gone(1, "a")), false},
		"Delete at the end":     {list(service("a"), gone(2, "a")), false},
		"more than may stand":   {many(600), true},
		"a long name":           {list(service(strings.Repeat("a", 1000)), service(strings.Repeat("a", 1001))), true},
		"many, one out of them": {append(many(600), service("aa")), false},
	} {
		if check.Ordered(x.conf) != x.want {
			t.Errorf("%s: %v", name, !x.want)
		}
	}
}
