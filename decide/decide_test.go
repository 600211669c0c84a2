package decide_test

import (
	"math"
	"strings"
	"testing"

	"turnpike/api"
	"turnpike/decide"
)

func share(service string, upto float64) api.Share { return api.Share{Service: service, Upto: upto} }

func entry(path, method string, shares ...api.Share) api.Entry {
	return api.Entry{Path: path, Method: method, Shares: shares}
}

func healthy(service string, endpoints ...string) api.Healthy {
	return api.Healthy{Service: service, Endpoints: endpoints}
}

func hosts(l ...api.Host) api.Tables { return api.Tables{Version: 1, Hosts: l} }

// example: the chapter's.
func example() (api.Tables, []api.Healthy) {
	return hosts(api.Host{
		Host: "*.b", Route: "r",
		Entries: []api.Entry{entry("/a*", "GET", share("web", 0.25), share("api", 1))},
		Permits: []api.Permit{{Path: "/a/x", Method: "*"}},
	}), []api.Healthy{healthy("api", "e1", "e2"), healthy("web")}
}

// P16.4: the chapter's examples, and those beside them.
func TestDecide(t *testing.T) {
	const none = -1
	forward := func(service, endpoint string) api.Decision {
		return api.Decision{Kind: api.Forward, Route: "r", Service: service, Endpoint: endpoint}
	}
	denied := api.Decision{Kind: api.Denied, Status: 403, Route: "r"}
	noRule := api.Decision{Kind: api.NoRule, Status: 404, Route: "r", Rule: none}
	noRoute := api.Decision{Kind: api.NoRoute, Status: 404, Rule: none}
	tables, h := example()
	for name, c := range map[string]struct {
		method, host, path string
		u                  float64
		n                  int
		want               api.Decision
	}{
		"the second of two":       {"GET", "a.b", "/a", 0.5, 3, forward("api", "e2")},
		"the first of two":        {"GET", "a.b", "/a", 0.5, 4, forward("api", "e1")},
		"n 0":                     {"GET", "a.b", "/a", 0.5, 0, forward("api", "e1")},
		"the greatest n":          {"GET", "a.b", "/a", 0.5, math.MaxInt, forward("api", "e2")},
		"n -1":                    {"GET", "a.b", "/a", 0.5, -1, forward("api", "e1")},
		"n -3":                    {"GET", "a.b", "/a", 0.5, -3, forward("api", "e1")},
		"the least n":             {"GET", "a.b", "/a", 0.5, math.MinInt, forward("api", "e1")},
		"u at a step":             {"GET", "a.b", "/a", 0.25, 1, forward("api", "e2")},
		"u is no number":          {"GET", "a.b", "/a", math.NaN(), 0, forward("api", "e1")},
		"u 1":                     {"GET", "a.b", "/a", 1, 0, forward("api", "e1")},
		"u above 1":               {"GET", "a.b", "/a", 7, 0, forward("api", "e1")},
		"a host with great ones":  {"GET", "A.B", "/a", 0.5, 0, forward("api", "e1")},
		"none is healthy":         {"GET", "a.b", "/a", 0.1, 0, api.Decision{Kind: api.NoHealth, Status: 503, Route: "r", Service: "web"}},
		"denied":                  {"GET", "a.b", "/a/x", 0.5, 0, denied},
		"denied ahead of health":  {"GET", "a.b", "/a/x", 0.1, 0, denied},
		"another method":          {"POST", "a.b", "/a", 0.5, 0, noRule},
		"a small method":          {"get", "a.b", "/a", 0.5, 0, noRule},
		"no method":               {"", "a.b", "/a", 0.5, 0, noRule},
		"another path":            {"GET", "a.b", "/b", 0.5, 0, noRule},
		"no path":                 {"GET", "a.b", "a", 0.5, 0, noRule},
		"no rule ahead of denied": {"POST", "a.b", "/a/x", 0.5, 0, noRule},
		"another host":            {"GET", "b", "/a", 0.5, 0, noRoute},
		"no host":                 {"GET", "", "/a", 0.5, 0, noRoute},
		"nothing at all":          {"", "", "", 0, 0, noRoute},
	} {
		if got := decide.Decide(tables, h, c.method, c.host, c.path, c.u, c.n); got != c.want {
			t.Errorf("%s: %+v, want %+v", name, got, c.want)
		}
	}
	if got := decide.Decide(api.Tables{}, nil, "GET", "a.b", "/a", 0.5, 0); got != noRoute {
		t.Errorf("without tables: %+v", got)
	}
}

// P16.4: the rule's number is told by every kind that has one.
func TestDecideTellsTheRule(t *testing.T) {
	x := hosts(
		api.Host{Host: "other", Route: "q"},
		api.Host{
			Host: "*", Route: "r",
			Entries: []api.Entry{entry("/n", "*"), entry("/a", "*", share("a", 1)), entry("/b", "*", share("b", 1)), entry("*", "*", share("b", 1))},
			Permits: []api.Permit{{Path: "/d", Method: "*"}},
		},
	)
	h := []api.Healthy{healthy("b", "e")}
	for path, want := range map[string]api.Decision{
		"/n": {Kind: api.NoHealth, Status: 503, Route: "r"},
		"/a": {Kind: api.NoHealth, Status: 503, Route: "r", Rule: 1, Service: "a"},
		"/b": {Kind: api.Forward, Route: "r", Rule: 2, Service: "b", Endpoint: "e"},
		"/d": {Kind: api.Denied, Status: 403, Route: "r", Rule: 3},
		"/e": {Kind: api.Forward, Route: "r", Rule: 3, Service: "b", Endpoint: "e"},
	} {
		if got := decide.Decide(x, h, "GET", "h", path, 0, 0); got != want {
			t.Errorf("%s: %+v", path, got)
		}
	}
	if got := decide.Decide(x, h, "GET", "other", "/a", 0, 0); got != (api.Decision{Kind: api.NoRule, Status: 404, Route: "q", Rule: -1}) {
		t.Errorf("a host without rules: %+v", got)
	}
}

// P16.4: of several Healthy of one name the first one counts, even if it has no endpoints; names are alike byte by byte.
func TestDecideByTheFirstHealthy(t *testing.T) {
	x := hosts(api.Host{Host: "h", Route: "r", Entries: []api.Entry{entry("*", "*", share("s", 1))}})
	for name, c := range map[string]struct {
		h    []api.Healthy
		want string
	}{
		"no list":             {nil, ""},
		"others alone":        {[]api.Healthy{healthy("S", "a"), healthy("ss", "b"), healthy("", "c")}, ""},
		"behind others":       {[]api.Healthy{healthy("S", "a"), healthy("ss", "b"), healthy("s", "c")}, "c"},
		"twice":               {[]api.Healthy{healthy("s", "a"), healthy("s", "b")}, "a"},
		"first without any":   {[]api.Healthy{healthy("s"), healthy("s", "b")}, ""},
		"first an empty list": {[]api.Healthy{{Service: "s", Endpoints: []string{}}, healthy("s", "b")}, ""},
	} {
		got := decide.Decide(x, c.h, "GET", "h", "/", 0, 0)
		isForward := got.Kind == api.Forward && got.Status == 0
		isNone := got.Kind == api.NoHealth && got.Status == 503
		if got.Endpoint != c.want || got.Service != "s" || isForward != (c.want != "") || isNone != (c.want == "") {
			t.Errorf("%s: %+v", name, got)
		}
	}
}

// P16.4: an endpoint may be any text, and may stand there twice.
func TestDecideOfAnyEndpoints(t *testing.T) {
	x := hosts(api.Host{Host: "h", Route: "", Entries: []api.Entry{entry("*", "*", share("s", 1))}})
	h := []api.Healthy{healthy("s", "", "\xff\x00", "e", "e")}
	for n, want := range []string{"", "\xff\x00", "e", "e", "", "\xff\x00"} {
		if got := decide.Decide(x, h, "GET", "h", "/", 0, n); got != (api.Decision{Kind: api.Forward, Service: "s", Endpoint: want}) {
			t.Errorf("%d: %+v", n, got)
		}
	}
}

// P16.4: an entry without shares has the service "", and that one no endpoints.
func TestDecideWithoutShares(t *testing.T) {
	h := []api.Healthy{healthy("", "e")}
	for _, shares := range [][]api.Share{nil, {}, {share("", 1)}} {
		x := hosts(api.Host{Host: "h", Route: "r", Entries: []api.Entry{entry("*", "*", shares...)}})
		if got := decide.Decide(x, h, "GET", "h", "/", 0, 0); got != (api.Decision{Kind: api.NoHealth, Status: 503, Route: "r"}) {
			t.Errorf("%v: %+v", shares, got)
		}
	}
}

// P16.5: the real is that of a's highest 53 bits, the number b modulo 2^31.
func TestWords(t *testing.T) {
	x := hosts(api.Host{Host: "h", Route: "r", Entries: []api.Entry{
		entry("/q", "*", share("a", 0.25), share("b", 0.5), share("c", 1-0x1p-53), share("d", 1)),
	}})
	// 2^31 is no multiple of any of these, so that b itself would pick other ones.
	h := []api.Healthy{healthy("a", "a0", "a1", "a2"), healthy("b", "b0"), healthy("c", "c0", "c1", "c2", "c3", "c4"), healthy("d", "d0", "d1", "d2")}
	for name, c := range map[string]struct {
		a, b              uint64
		service, endpoint string
	}{
		"nothing":                  {0, 0, "a", "a0"},
		"b 5":                      {0, 5, "a", "a2"},
		"b 2^31 - 1":               {0, 1<<31 - 1, "a", "a1"},
		"b 2^31":                   {0, 1 << 31, "a", "a0"},
		"b 2^31 + 1":               {0, 1<<31 + 1, "a", "a1"},
		"b 2^63":                   {0, 1 << 63, "a", "a0"},
		"b 2^63 + 2":               {0, 1<<63 + 2, "a", "a2"},
		"b 2^64 - 1":               {0, math.MaxUint64, "a", "a1"},
		"just below a quarter":     {1<<62 - 1, 0, "a", "a0"},
		"a quarter":                {1 << 62, 0, "b", "b0"},
		"a half":                   {1 << 63, 7, "c", "c2"},
		"the last but one of 2^53": {math.MaxUint64 - 2048, 8, "c", "c3"},
		"the last of 2^53":         {math.MaxUint64 - 2047, 8, "d", "d2"},
		"the greatest word":        {math.MaxUint64, 1, "d", "d1"},
	} {
		want := api.Decision{Kind: api.Forward, Route: "r", Service: c.service, Endpoint: c.endpoint}
		if got := decide.Words(x, h, "GET", "h", "/q", c.a, c.b); got != want {
			t.Errorf("%s: %+v, want %+v", name, got, want)
		}
	}
	if got := decide.Words(x, h, "GET", "h", "/r", 1, 1); got != (api.Decision{Kind: api.NoRule, Status: 404, Route: "r", Rule: -1}) {
		t.Errorf("no rule: %+v", got)
	}
	if got := decide.Words(api.Tables{}, nil, "", "", "", 1, 1); got != (api.Decision{Kind: api.NoRoute, Status: 404, Rule: -1}) {
		t.Errorf("no tables: %+v", got)
	}
}

// P16.1: the first of the list counts, whether or not the list stands in order; what is no pattern takes nothing.
func TestFind(t *testing.T) {
	of := func(patterns ...string) api.Tables {
		var x api.Tables
		for _, p := range patterns {
			x.Hosts = append(x.Hosts, api.Host{Host: p, Route: p})
		}
		return x
	}
	for name, c := range map[string]struct {
		x    api.Tables
		host string
		want int
	}{
		"no hosts":               {of(), "a", -1},
		"the first":              {of("a", "b"), "a", 0},
		"the second":             {of("a", "b"), "b", 1},
		"none":                   {of("a", "b"), "c", -1},
		"out of order":           {of("*", "a"), "a", 0},
		"a wide one first":       {of("b", "*.x", "a.x"), "a.x", 1},
		"twice":                  {of("b", "a", "a"), "a", 1},
		"folded":                 {of("b", "*.SHOP"), "A.shop", 1},
		"not itself":             {of("*.shop"), "shop", -1},
		"no patterns":            {of("", "a_b", "*.", "a*", "*a", "**", "a"), "a", 6},
		"no host":                {of("*", "a_b"), "a_b", -1},
		"the empty host":         {of("", "*"), "", -1},
		"with a port":            {of("*", "a:80"), "a:80", -1},
		"the longest host":       {of("b", "*"), strings.Repeat("a", 64), 1},
		"longer than any host":   {of("b", "*"), strings.Repeat("a", 65), -1},
		"a pattern for its host": {of("*.a", "*"), "*.a", -1},
	} {
		if got := decide.Find(c.x, c.host); got != c.want {
			t.Errorf("%s: %d, want %d", name, got, c.want)
		}
	}
}

// lines are what rules and permits have in common.
type line struct{ path, method string }

// firsts: lists of lines, a method and a path, and the number of the first line that takes them.
func firsts() map[string]struct {
	lines        []line
	method, path string
	want         int
} {
	long := "/" + strings.Repeat("p", 255)
	return map[string]struct {
		lines        []line
		method, path string
		want         int
	}{
		"no lines":               {nil, "GET", "/", -1},
		"the first":              {[]line{{"/a", "GET"}, {"/a", "GET"}}, "GET", "/a", 0},
		"the second by path":     {[]line{{"/a", "GET"}, {"/b", "GET"}}, "GET", "/b", 1},
		"the second by method":   {[]line{{"/a", "GET"}, {"/a", "POST"}}, "POST", "/a", 1},
		"the third by both":      {[]line{{"/a", "GET"}, {"/b", "POST"}, {"/b", "GET"}, {"*", "*"}}, "GET", "/b", 2},
		"none":                   {[]line{{"/a", "GET"}, {"/b", "POST"}}, "GET", "/b", -1},
		"a wide one first":       {[]line{{"*", "*"}, {"/a", "GET"}}, "GET", "/a", 0},
		"all that begin so":      {[]line{{"/ab*", "GET"}, {"/a*", "GET"}}, "GET", "/a", 1},
		"a path, not its parts":  {[]line{{"/a", "*"}}, "GET", "/a/b", -1},
		"no folding":             {[]line{{"/A", "*"}, {"/a", "get"}}, "GET", "/a", -1},
		"no path patterns":       {[]line{{"", "*"}, {"a", "*"}, {"a*", "*"}, {"/ a", "*"}, {"/*", "*"}}, "GET", "/a", 4},
		"no path":                {[]line{{"*", "*"}, {"a", "*"}, {"", "*"}}, "GET", "a", -1},
		"the empty path":         {[]line{{"*", "*"}, {"", "*"}}, "GET", "", -1},
		"the longest path":       {[]line{{"*", "*"}}, "GET", long, 0},
		"longer than any path":   {[]line{{"*", "*"}}, "GET", long + "p", -1},
		"every method":           {[]line{{"*", "GET"}, {"*", "*"}}, "PURGE", "/", 1},
		"what is no method":      {[]line{{"*", "GET"}, {"*", "*"}}, "no method", "/", 1},
		"what is no method, too": {[]line{{"*", "GET"}, {"*", "g-t"}}, "g-t", "/", 1},
		"the empty method":       {[]line{{"*", "GET"}, {"*", ""}}, "", "/", 1},
		"the method *":           {[]line{{"*", "GET"}, {"*", "*"}}, "*", "/", 1},
		"a longer method":        {[]line{{"*", "GET"}}, "GETS", "/", -1},
		"a method with a star":   {[]line{{"*", "G*"}, {"*", "**"}}, "GET", "/", -1},
	}
}

// P16.1.
func TestRule(t *testing.T) {
	for name, c := range firsts() {
		// Permits have nothing to say about it.
		h := api.Host{Host: "no pattern", Permits: []api.Permit{{Path: "*", Method: "*"}}}
		for _, l := range c.lines {
			h.Entries = append(h.Entries, entry(l.path, l.method))
		}
		if got := decide.Rule(h, c.method, c.path); got != c.want {
			t.Errorf("%s: %d, want %d", name, got, c.want)
		}
	}
}

// P16.2.
func TestAllowed(t *testing.T) {
	for name, c := range firsts() {
		for _, allow := range []bool{false, true} {
			// The line that counts says otherwise than all others; entries have nothing to say about it.
			h := api.Host{Host: "no pattern", Entries: []api.Entry{entry("*", "*")}}
			for i, l := range c.lines {
				h.Permits = append(h.Permits, api.Permit{Path: l.path, Method: l.method, Allow: allow == (i == c.want)})
			}
			want := allow || c.want < 0
			if got, at := decide.Allowed(h, c.method, c.path); got != want || at != c.want {
				t.Errorf("%s: %v, %d, want %v, %d", name, got, at, want, c.want)
			}
		}
	}
	if is, at := decide.Allowed(api.Host{}, "", ""); !is || at != -1 {
		t.Errorf("nothing: %v, %d", is, at)
	}
}

// P16.3: of any reals.
func TestShare(t *testing.T) {
	nan, inf, minus := math.NaN(), math.Inf(1), math.Copysign(0, -1)
	least := math.SmallestNonzeroFloat64
	quarters := entry("", "", share("a", 0.25), share("b", 0.75), share("c", 1))
	for name, c := range map[string]struct {
		e    api.Entry
		u    float64
		want string
	}{
		"no shares":                      {entry("/", "GET"), 0, ""},
		"no shares, no number":           {entry("/", "GET"), nan, ""},
		"the first":                      {quarters, 0, "a"},
		"-0":                             {quarters, minus, "a"},
		"below 0":                        {quarters, -1, "a"},
		"-Inf":                           {quarters, -inf, "a"},
		"just below a step":              {quarters, math.Nextafter(0.25, 0), "a"},
		"a step":                         {quarters, 0.25, "b"},
		"just below the next":            {quarters, math.Nextafter(0.75, 0), "b"},
		"the next":                       {quarters, 0.75, "c"},
		"the greatest below 1":           {quarters, 1 - 0x1p-53, "c"},
		"1":                              {quarters, 1, "c"},
		"above":                          {quarters, 1e300, "c"},
		"Inf":                            {quarters, inf, "c"},
		"no number":                      {quarters, nan, "c"},
		"one share, u above":             {entry("", "", share("a", 0)), 5, "a"},
		"a step of 0":                    {entry("", "", share("a", 0), share("b", 1)), 0, "b"},
		"a step of -0":                   {entry("", "", share("a", minus), share("b", 1)), minus, "b"},
		"the least step":                 {entry("", "", share("a", least), share("b", 1)), 0, "a"},
		"u the least":                    {entry("", "", share("a", least), share("b", 1)), least, "b"},
		"a step that is no number":       {entry("", "", share("a", nan), share("b", 1), share("c", 1)), 0, "b"},
		"the last is no number":          {entry("", "", share("a", 0.5), share("b", nan)), 0.5, "b"},
		"none but such":                  {entry("", "", share("a", nan), share("b", nan)), -inf, "b"},
		"steps that fall":                {entry("", "", share("a", 0.75), share("b", 0.25), share("c", 0.5)), 0.5, "a"},
		"steps that fall, u above":       {entry("", "", share("a", 0.75), share("b", 0.25), share("c", 0.5)), 0.8, "c"},
		"a greater step behind":          {entry("", "", share("a", 0.1), share("b", 0.9), share("c", 0.5)), 0.6, "b"},
		"Inf under a step of Inf":        {entry("", "", share("a", inf), share("b", 1)), inf, "b"},
		"a step of Inf":                  {entry("", "", share("a", inf), share("b", 1)), math.MaxFloat64, "a"},
		"a step of -Inf":                 {entry("", "", share("a", -inf), share("b", 1)), -inf, "b"},
		"one service twice":              {entry("", "", share("a", 0.5), share("b", 0.75), share("a", 1)), 0.9, "a"},
		"a service of whatever text":     {entry("", "", share("a", 0.5), share("\xff \x00", 1)), 0.5, "\xff \x00"},
		"a service without a name":       {entry("", "", share("", 0.5), share("a", 1)), 0.25, ""},
		"behind one that is without one": {entry("", "", share("", 0.5), share("a", 1)), 0.5, "a"},
	} {
		if got := decide.Share(c.e, c.u); got != c.want {
			t.Errorf("%s: %q, want %q", name, got, c.want)
		}
	}
}
