package decide_test

import (
	"math"
	"math/rand"
	"slices"
	"strings"
	"testing"

	"turnpike/api"
	"turnpike/decide"
)

// The model goes through the lists from the last element on, so that the first one that counts is what stays; and it tells patterns by itself.

func isHostText(s string) bool {
	return len(s) >= 1 && len(s) <= 64 && strings.Trim(s, "ABCDEFGHIJKLMNOPQRSTUVWXYZabcdefghijklmnopqrstuvwxyz0123456789-.") == ""
}

func isPathText(s string) bool {
	return strings.HasPrefix(s, "/") && len(s) <= 256 && !strings.ContainsFunc(s, func(r rune) bool { return r < 33 || r > 126 })
}

func modelTakesHost(pattern, host string) bool {
	pattern, host = strings.ToLower(pattern), strings.ToLower(host)
	if !isHostText(host) {
		return false
	}
	if rest, is := strings.CutPrefix(pattern, "*."); is {
		return isHostText(rest) && strings.HasSuffix(host, "."+rest)
	}
	return pattern == "*" || pattern == host
}

func modelTakesPath(pattern, path string) bool {
	if !isPathText(path) {
		return false
	}
	if rest, is := strings.CutSuffix(pattern, "*"); is {
		return (rest == "" || isPathText(rest)) && strings.HasPrefix(path, rest)
	}
	return pattern == path
}

func modelTakes(ofPath, ofMethod, method, path string) bool {
	return modelTakesPath(ofPath, path) && (ofMethod == method || ofMethod == "*")
}

func modelFind(x api.Tables, host string) int {
	at := -1
	for i, h := range slices.Backward(x.Hosts) {
		if modelTakesHost(h.Host, host) {
			at = i
		}
	}
	return at
}

func modelRule(h api.Host, method, path string) int {
	at := -1
	for i, e := range slices.Backward(h.Entries) {
		if modelTakes(e.Path, e.Method, method, path) {
			at = i
		}
	}
	return at
}

func modelAllowed(h api.Host, method, path string) (bool, int) {
	is, at := true, -1
	for i, p := range slices.Backward(h.Permits) {
		if modelTakes(p.Path, p.Method, method, path) {
			is, at = p.Allow, i
		}
	}
	return is, at
}

// modelPlace: the place of the share that u picks; -1 of no shares.
func modelPlace(e api.Entry, u float64) int {
	at := len(e.Shares) - 1
	for i, s := range slices.Backward(e.Shares) {
		if s.Upto > u {
			at = i
		}
	}
	return at
}

func modelShare(e api.Entry, u float64) string {
	if at := modelPlace(e, u); at >= 0 {
		return e.Shares[at].Service
	}
	return ""
}

func modelEndpoints(h []api.Healthy, service string) []string {
	var endpoints []string
	for _, x := range slices.Backward(h) {
		if x.Service == service && service != "" {
			endpoints = x.Endpoints
		}
	}
	return endpoints
}

func modelDecide(x api.Tables, h []api.Healthy, method, host, path string, u float64, n int) api.Decision {
	at := modelFind(x, host)
	if at < 0 {
		return api.Decision{Kind: 2, Status: 404, Rule: -1}
	}
	route := x.Hosts[at]
	rule := modelRule(route, method, path)
	if rule < 0 {
		return api.Decision{Kind: 3, Status: 404, Route: route.Route, Rule: -1}
	}
	if is, _ := modelAllowed(route, method, path); !is {
		return api.Decision{Kind: 4, Status: 403, Route: route.Route, Rule: rule}
	}
	service := modelShare(route.Entries[rule], u)
	endpoints := modelEndpoints(h, service)
	if len(endpoints) == 0 {
		return api.Decision{Kind: 5, Status: 503, Route: route.Route, Rule: rule, Service: service}
	}
	for n < 0 {
		n = 0
	}
	return api.Decision{Kind: 1, Route: route.Route, Rule: rule, Service: service, Endpoint: endpoints[n%len(endpoints)]}
}

func one[T any](r *rand.Rand, l []T) T { return l[r.Intn(len(l))] }

// mostly: one of the usual ones, and now and then one of the odd ones.
func mostly(r *rand.Rand, usual, odd []string) string {
	if r.Intn(6) > 0 {
		return one(r, usual)
	}
	return one(r, odd)
}

func someService(r *rand.Rand) string {
	return mostly(r, []string{"a", "b", "c"}, []string{"d", "A", ""})
}

func someReals() []float64 {
	return []float64{0, math.Copysign(0, -1), 0.25, 0.5, 0.75, 1, 1 - 0x1p-53, -1, 2, math.NaN(), math.Inf(1), math.Inf(-1), math.SmallestNonzeroFloat64, math.MaxFloat64}
}

func someNumbers() []int {
	return []int{0, 1, 2, 3, 4, 5, 6, 7, -1, -2, math.MinInt, math.MaxInt, 1 << 31, 1<<31 - 1}
}

func someEntry(r *rand.Rand) api.Entry {
	e := entry(
		mostly(r, []string{"*", "/*", "/a", "/a*", "/a/b", "/b*"}, []string{"", "a", "/ *", "/a**"}),
		mostly(r, []string{"GET", "*", "POST"}, []string{"", "get", "**"}),
	)
	for range r.Intn(5) {
		x := r.Float64()
		if r.Intn(2) == 0 {
			x = one(r, someReals())
		}
		e.Shares = append(e.Shares, share(someService(r), x))
	}
	return e
}

func someHost(r *rand.Rand) api.Host {
	h := api.Host{
		Host:  mostly(r, []string{"*", "*.a", "*.A", "a", "b.a", "B.a", "*.b.a", "c.b.a"}, []string{"x", "", "a_b", "*.", "a*", "*a"}),
		Route: one(r, []string{"q", "r", "s", ""}),
	}
	for range r.Intn(5) {
		h.Entries = append(h.Entries, someEntry(r))
	}
	for range r.Intn(4) {
		e := someEntry(r)
		h.Permits = append(h.Permits, api.Permit{Path: e.Path, Method: e.Method, Allow: r.Intn(2) == 0})
	}
	return h
}

func someTables(r *rand.Rand) api.Tables {
	x := api.Tables{Version: r.Intn(3)}
	for range r.Intn(5) {
		x.Hosts = append(x.Hosts, someHost(r))
	}
	return x
}

// someHealthy: endpoints of several services, told once or more than once; no endpoint stands twice.
func someHealthy(r *rand.Rand) []api.Healthy {
	var h []api.Healthy
	for i := range r.Intn(9) {
		x := healthy(someService(r))
		for j := range r.Intn(5) {
			x.Endpoints = append(x.Endpoints, string([]byte{'e', '0' + byte(i), '0' + byte(j)}))
		}
		h = append(h, x)
	}
	return h
}

// request is what D is asked for, but for the draws.
type request struct{ method, host, path string }

func someRequest(r *rand.Rand) request {
	return request{
		mostly(r, []string{"GET", "POST"}, []string{"*", "", "get", "PUT"}),
		mostly(r, []string{"a", "A", "b.a", "c.b.a", "C.B.A", "q.a"}, []string{"x", "y", "", "a_b", "*"}),
		mostly(r, []string{"/", "/a", "/a/b", "/ab", "/b"}, []string{"/a*", "", "a", "/ ", "*"}),
	}
}

func someReal(r *rand.Rand) float64 {
	if r.Intn(2) == 0 {
		return r.Float64()
	}
	return one(r, someReals())
}

// P16.1 to P16.5: against the model.
func TestAgainstModel(t *testing.T) {
	r := rand.New(rand.NewSource(1))
	kinds := map[int]int{}
	for range 200000 {
		x, h, q, u, n := someTables(r), someHealthy(r), someRequest(r), someReal(r), one(r, someNumbers())
		if got, want := decide.Find(x, q.host), modelFind(x, q.host); got != want {
			t.Fatalf("Find of %+v, %q: %d, want %d", x, q.host, got, want)
		}
		for _, host := range x.Hosts {
			wantStepsOf(t, host, q, u)
		}
		want := modelDecide(x, h, q.method, q.host, q.path, u, n)
		if got := decide.Decide(x, h, q.method, q.host, q.path, u, n); got != want {
			t.Fatalf("%+v, %+v, %+v, %g, %d: %+v, want %+v", x, h, q, u, n, got, want)
		}
		kinds[want.Kind]++
		a, b := r.Uint64(), r.Uint64()
		want = modelDecide(x, h, q.method, q.host, q.path, math.Ldexp(float64(a>>11), -53), int(b&math.MaxInt32))
		if got := decide.Words(x, h, q.method, q.host, q.path, a, b); got != want {
			t.Fatalf("%+v, %+v, %+v, %d, %d: %+v, want %+v", x, h, q, a, b, got, want)
		}
	}
	for kind := api.Forward; kind <= api.NoHealth; kind++ {
		if kinds[kind] < 2000 {
			t.Errorf("%d of kind %d", kinds[kind], kind)
		}
	}
}

func wantStepsOf(t *testing.T, host api.Host, q request, u float64) {
	t.Helper()
	if got, want := decide.Rule(host, q.method, q.path), modelRule(host, q.method, q.path); got != want {
		t.Fatalf("Rule of %+v, %+v: %d, want %d", host, q, got, want)
	}
	got, at := decide.Allowed(host, q.method, q.path)
	if want, wantAt := modelAllowed(host, q.method, q.path); got != want || at != wantAt {
		t.Fatalf("Allowed of %+v, %+v: %v, %d, want %v, %d", host, q, got, at, want, wantAt)
	}
	for _, e := range host.Entries {
		if got, want := decide.Share(e, u), modelShare(e, u); got != want {
			t.Fatalf("Share of %+v, %g: %q, want %q", e, u, got, want)
		}
	}
}
