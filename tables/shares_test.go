package tables_test

import (
	"math"
	"strings"
	"testing"

	"turnpike/api"
	"turnpike/tables"
)

func share(service string, upto float64) api.Share { return api.Share{Service: service, Upto: upto} }

// P15.2: the chapter's examples; what comes first, and what is added where.
func TestShares(t *testing.T) {
	conf := list(
		service("a"), service("b"), service("c"),
		split("", toService("c", 100)),
		split("empty", toSplit("", 100)),
		split("noughts", toService("b", 0), toSplit("t", 0), toService("c", 100)),
		split("s", toService("a", 50), toSplit("t", 50)),
		split("t", toService("a", 20), toService("b", 80)),
		split("twice", toService("b", 25), toService("a", 25), toService("b", 50)),
		split("u", toSplit("t", 50), toService("c", 25), toSplit("twice", 25)),
		split("v", api.Target{Service: "a", Split: "t", Weight: 100}),
		split("w", api.Target{Service: "a", Split: "none", Weight: 100}),
	)
	for of, want := range map[string][]api.Share{
		"s":       {share("a", 0.6), share("b", 0.4)},
		"t":       {share("a", 0.2), share("b", 0.8)},
		"noughts": {share("b", 0), share("a", 0), share("c", 1)},
		"twice":   {share("b", 0.75), share("a", 0.25)},
		"u":       {share("a", 0.1+0.0625), share("b", 0.4+0.1875), share("c", 0.25)},
		"v":       {share("a", 1)},
		"w":       {share("a", 1)},
		"":        {share("c", 1)},
		"empty":   {share("c", 1)},
	} {
		if got, err := tables.Shares(conf, of); err != api.OK || !isShares(got, want) {
			t.Errorf("Shares of %q: %v, %d", of, got, err)
		}
	}
	for _, of := range []string{"z", "a", "S", "s ", "none", strings.Repeat("s", 1000)} {
		if got, err := tables.Shares(conf, of); err != api.ErrArg || len(got) != 0 {
			t.Errorf("Shares of %q: %v, %d", of, got, err)
		}
	}
	for _, conf := range [][]api.Resource{nil, list(service("s")), list(route("s", "h")), list(route("r", "h"), policy("s", "r"))} {
		if got, err := tables.Shares(conf, "s"); err != api.ErrArg || len(got) != 0 {
			t.Errorf("no split: %v, %d", got, err)
		}
		if got, err := tables.Shares(conf, ""); err != api.ErrArg || len(got) != 0 {
			t.Errorf("no split without a name: %v, %d", got, err)
		}
	}
}

// P15.2: each product and each sum is rounded by itself: fused, some of them are other ones.
func TestSharesAreRounded(t *testing.T) {
	telling := 0
	for i := range 99 {
		v, third := float64(i+1), 100/3.0
		conf := list(
			service("a"), service("b"),
			split("s", toService("a", v), toSplit("t", 100-v)),
			split("t", toService("a", third), toService("b", 100-third)),
		)
		w, x, y := (100-v)/100, third/100, (100-third)/100
		product := float64(w * x)
		a := v/100 + product
		if math.FMA(w, x, v/100) != a {
			telling++
		}
		got, err := tables.Shares(conf, "s")
		if err != api.OK || !isShares(got, []api.Share{share("a", a), share("b", w*y)}) {
			t.Errorf("%v: %v, %d", v, got, err)
		}
	}
	if telling == 0 {
		t.Error("no real tells whether it is fused")
	}
}

// P15.2: a weight is divided ahead of being added; the other way about, some sums are other ones.
func TestWeightsAreDivided(t *testing.T) {
	telling := 0
	for i := range 99 {
		v, w := float64(i+1)/10, 0.3
		rest := 100 - (v + w)
		conf := list(service("a"), service("b"), split("s", toService("a", v), toService("a", w), toService("b", rest)))
		a := v/100 + w/100
		if (v+w)/100 != a {
			telling++
		}
		if got, err := tables.Shares(conf, "s"); err != api.OK || !isShares(got, []api.Share{share("a", a), share("b", rest/100)}) {
			t.Errorf("%v: %v, %d", v, got, err)
		}
	}
	if telling == 0 {
		t.Error("no real tells what comes first")
	}
}

// P15.2: 0 stands ahead of what is added, so that -0 makes 0; the least reals, and products below them.
func TestSharesAtTheirEdges(t *testing.T) {
	nought, least := math.Copysign(0, -1), math.SmallestNonzeroFloat64
	conf := list(
		service("a"), service("b"), service("c"),
		split("s", toService("a", nought), toSplit("t", nought), toService("b", 100)),
		split("t", toService("c", least*200), toService("b", 100)),
		split("u", toSplit("t", 10), toService("a", 90)),
		split("v", toService("c", least), toService("a", 100)),
	)
	for of, want := range map[string][]api.Share{
		"s": {share("a", 0), share("c", 0), share("b", 1)},
		"t": {share("c", least*2), share("b", 1)},
		"u": {share("c", 0), share("b", 0.1), share("a", 0.9)},
		"v": {share("c", 0), share("a", 1)},
	} {
		if got, err := tables.Shares(conf, of); err != api.OK || !isShares(got, want) {
			t.Errorf("%s: %v, %d", of, got, err)
		}
	}
}

// P15.2: splits in a chain as long as may be, each of which names the next one many times over, end quickly.
func TestSharesOfMany(t *testing.T) {
	conf := list(service("a"), service("b"))
	for i := range 8 {
		x := split(string([]byte{'a' + byte(i)}))
		for range 64 {
			next := toSplit(string([]byte{'a' + byte(i+1)}), 100/64.0)
			if i == 7 {
				next = toService("b", 100/64.0)
			}
			x.Targets = append(x.Targets, next)
		}
		conf = append(conf, x)
	}
	if got, err := tables.Shares(conf, "a"); err != api.OK || !isShares(got, []api.Share{share("b", 1)}) {
		t.Errorf("%v, %d", got, err)
	}
	conf = append(conf, route("r", "h", get("/a", "a"), get("/h", "h")))
	if got, err := tables.Compile(1, conf); err != api.OK || len(got.Hosts[0].Entries) != 2 {
		t.Errorf("%v, %d", got, err)
	}
}

// P15.2: of any list of shares.
func TestSteps(t *testing.T) {
	inf, none, least := math.Inf(1), math.NaN(), math.SmallestNonzeroFloat64
	for name, x := range map[string]struct{ l, want []api.Share }{
		"none":                     {nil, nil},
		"the chapter's":            {[]api.Share{share("a", 0.6), share("b", 0.4)}, []api.Share{share("a", 0.6), share("b", 1)}},
		"a 0 first":                {[]api.Share{share("a", 0), share("b", 0.25), share("a", 0.5)}, []api.Share{share("b", 0.25), share("a", 1)}},
		"a 0 last":                 {[]api.Share{share("a", 0.25), share("b", 0.25), share("c", 0)}, []api.Share{share("a", 0.25), share("b", 1)}},
		"noughts":                  {[]api.Share{share("a", 0), share("b", math.Copysign(0, -1))}, nil},
		"one":                      {[]api.Share{share("a", 0.25)}, []api.Share{share("a", 1)}},
		"one above 1":              {[]api.Share{share("a", 25)}, []api.Share{share("a", 1)}},
		"alike":                    {[]api.Share{share("a", 0.25), share("a", 0.25), share("a", 0.5)}, []api.Share{share("a", 0.25), share("a", 0.5), share("a", 1)}},
		"no number":                {[]api.Share{share("a", none), share("b", 0.5), share("c", none), share("d", 0.25), share("e", none)}, []api.Share{share("b", 0.5), share("d", 1)}},
		"below 0":                  {[]api.Share{share("a", -1), share("b", 0.5), share("c", -inf), share("d", 0.25)}, []api.Share{share("b", 0.5), share("d", 1)}},
		"above 1":                  {[]api.Share{share("a", 5), share("b", 5)}, []api.Share{share("a", 5), share("b", 1)}},
		"infinities":               {[]api.Share{share("a", 1), share("b", inf), share("c", 1), share("d", inf)}, []api.Share{share("a", 1), share("b", inf), share("c", inf), share("d", 1)}},
		"beyond the greatest":      {[]api.Share{share("a", math.MaxFloat64), share("b", math.MaxFloat64), share("c", 1)}, []api.Share{share("a", math.MaxFloat64), share("b", inf), share("c", 1)}},
		"the least":                {[]api.Share{share("a", least), share("b", least), share("c", least)}, []api.Share{share("a", least), share("b", 2*least), share("c", 1)}},
		"too little to be seen":    {[]api.Share{share("a", 0.5), share("b", least), share("c", 0.5)}, []api.Share{share("a", 0.5), share("b", 0.5), share("c", 1)}},
		"services without a name":  {[]api.Share{share("", 0.5), share("", 0.5)}, []api.Share{share("", 0.5), share("", 1)}},
		"a sum from the first on":  {[]api.Share{share("a", 1), share("b", 0x1p-53), share("c", 0x1p-53), share("d", 1)}, []api.Share{share("a", 1), share("b", 1), share("c", 1), share("d", 1)}},
		"the other way about":      {[]api.Share{share("b", 0x1p-53), share("c", 0x1p-53), share("a", 1), share("d", 1)}, []api.Share{share("b", 0x1p-53), share("c", 0x1p-52), share("a", 1+0x1p-52), share("d", 1)}},
		"shares of more than once": {[]api.Share{share("a", 0.75), share("b", 0.75), share("c", 0.75)}, []api.Share{share("a", 0.75), share("b", 1.5), share("c", 1)}},
	} {
		if got := tables.Steps(x.l); !isShares(got, x.want) {
			t.Errorf("%s: %v", name, got)
		}
	}
}
