package paths_test

import (
	"cmp"
	"math/rand"
	"regexp"
	"strings"
	"testing"

	"turnpike/paths"
)

// The model tells sorts by regular expressions, as the chapter's words read.
var (
	aHost   = regexp.MustCompile(`\A[A-Za-z0-9.-]{1,64}\z`)
	aBelow  = regexp.MustCompile(`\A\*\.[A-Za-z0-9.-]{1,64}\z`)
	aPath   = regexp.MustCompile(`\A/[!-~]{0,255}\z`)
	aBegin  = regexp.MustCompile(`\A/[!-~]{0,255}\*\z`)
	aMethod = regexp.MustCompile(`\A[A-Z]{1,64}\z`)
)

// place: which of the order's parts a text stands in, from 0 on; 3 is what is no pattern.
func place(s string) int {
	switch {
	case aHost.MatchString(s):
		return 0
	case aBelow.MatchString(s):
		return 1
	case s == "*":
		return 2
	}
	return 3
}

func modelHost(pattern, host string) bool {
	p, h := strings.ToLower(pattern), strings.ToLower(host)
	if !aHost.MatchString(host) {
		return false
	}
	return [4]bool{p == h, place(pattern) == 1 && strings.HasSuffix(h, p[1:]), true, false}[place(pattern)]
}

func modelPath(pattern, path string) bool {
	switch {
	case !aPath.MatchString(path):
		return false
	case pattern == "*":
		return true
	case aBegin.MatchString(pattern):
		return strings.HasPrefix(path, pattern[:len(pattern)-1])
	}
	return pattern == path
}

func modelCoversHost(a, b string) bool {
	if place(a) == 3 || place(b) == 3 {
		return false
	}
	behind := strings.TrimPrefix(b, "*.")
	return a == "*" || strings.EqualFold(a, b) || place(a) == 1 && (strings.HasSuffix(strings.ToLower(b), strings.ToLower(a[1:])) || strings.HasSuffix(strings.ToLower(behind), strings.ToLower(a[1:])))
}

func isPathPattern(s string) bool {
	return s == "*" || aBegin.MatchString(s) || aPath.MatchString(s) && !strings.HasSuffix(s, "*")
}

func modelCoversPath(a, b string) bool {
	if !isPathPattern(a) || !isPathPattern(b) {
		return false
	}
	return a == "*" || a == b || aBegin.MatchString(a) && strings.HasPrefix(strings.TrimSuffix(b, "*"), a[:len(a)-1])
}

func modelOrder(a, b string) int {
	x, y := a, b
	if place(a) < 3 {
		x = strings.ToLower(a)
	}
	if place(b) < 3 {
		y = strings.ToLower(b)
	}
	if place(a) == 1 && place(b) == 1 && len(a) != len(b) {
		return cmp.Compare(len(b), len(a))
	}
	return cmp.Or(cmp.Compare(place(a), place(b)), cmp.Compare(x, y))
}

// modelBest asks whether there is one that stands ahead of it, or alike with a lesser number.
func modelBest(patterns []string, host string) (int, bool) {
	for i, p := range patterns {
		best := modelHost(p, host)
		for j, q := range patterns {
			if o := modelOrder(q, p); modelHost(q, host) && (o < 0 || o == 0 && j < i) {
				best = false
			}
		}
		if best {
			return i, true
		}
	}
	return 0, false
}

// texts: all texts of up to n of these bytes.
func texts(bytes string, n int) []string {
	all := []string{""}
	for from := 0; n > 0; n-- {
		end := len(all)
		for _, s := range all[from:end] {
			for i := range len(bytes) {
				all = append(all, s+bytes[i:i+1])
			}
		}
		from = end
	}
	return all
}

// hostTexts: short ones of all bytes that matter, and longer ones, which tell the order's lengths.
func hostTexts() []string {
	return append(texts("aA.*_", 3), "*.a.a", "*.A.A", "*.b.a", "b.a", "a.b.a", "*.a.b.a", "*.ba", "*.ab", "*.*.a", "*.a_", "*.aa", "*.a.", "*..a", "*.-")
}

// P13.2 to P13.5: all pairs of short texts.
func TestAllPairsOfHosts(t *testing.T) {
	all := hostTexts()
	for _, a := range all {
		if paths.HostPattern(a) != (place(a) < 3) {
			t.Errorf("HostPattern(%q)", a)
		}
		for _, b := range all {
			if got := paths.Host(a, b); got != modelHost(a, b) {
				t.Errorf("Host(%q, %q): %v", a, b, got)
			}
			if got := paths.CoversHost(a, b); got != modelCoversHost(a, b) {
				t.Errorf("CoversHost(%q, %q): %v", a, b, got)
			}
			if got := paths.Order(a, b); got != modelOrder(a, b) {
				t.Errorf("Order(%q, %q): %d", a, b, got)
			}
		}
	}
}

// P13.2 to P13.4: all pairs of short texts.
func TestAllPairsOfPaths(t *testing.T) {
	all := texts("/a* ", 4)
	for _, a := range all {
		if paths.PathPattern(a) != isPathPattern(a) {
			t.Errorf("PathPattern(%q)", a)
		}
		for _, b := range all {
			if got := paths.Path(a, b); got != modelPath(a, b) {
				t.Errorf("Path(%q, %q): %v", a, b, got)
			}
			if got := paths.CoversPath(a, b); got != modelCoversPath(a, b) {
				t.Errorf("CoversPath(%q, %q): %v", a, b, got)
			}
		}
	}
}

// P13.2 to P13.4: all pairs of short texts.
func TestAllPairsOfMethods(t *testing.T) {
	all := texts("AZa*", 3)
	for _, a := range all {
		isA := a == "*" || aMethod.MatchString(a)
		if paths.MethodPattern(a) != isA {
			t.Errorf("MethodPattern(%q)", a)
		}
		for _, b := range all {
			isB := aMethod.MatchString(b)
			if got := paths.Method(a, b); got != (isB && (a == b || a == "*")) {
				t.Errorf("Method(%q, %q): %v", a, b, got)
			}
			if got := paths.CoversMethod(a, b); got != (isA && (isB || b == "*") && (a == b || a == "*")) {
				t.Errorf("CoversMethod(%q, %q): %v", a, b, got)
			}
		}
	}
}

// anyHost: a host pattern or what is nearly one, often of a length near the limits.
func anyHost(r *rand.Rand) string {
	parts := []string{"a", "B", "c9", "-", "a.b", "."}
	n := []int{1, 2, 4, 62, 66}[r.Intn(5)]
	s := ""
	for len(s) < n {
		s += parts[r.Intn(len(parts))]
		if r.Intn(3) == 0 {
			s += "."
		}
	}
	if r.Intn(3) == 0 {
		s = s[:len(s)-r.Intn(len(s))]
	}
	return []string{"", "", "*.", "*.", "*", "_"}[r.Intn(6)] + s
}

// P13.1 to P13.6: texts of many lengths, the second made of the first.
func TestAnyHosts(t *testing.T) {
	r := rand.New(rand.NewSource(13))
	for range 40000 {
		a := anyHost(r)
		b := []string{a, "x." + a, "*.x." + strings.TrimPrefix(a, "*."), strings.TrimPrefix(a, "*."), "y." + strings.TrimPrefix(a, "*."), strings.ToUpper(a), "*." + a, anyHost(r)}[r.Intn(8)]
		if got, is := paths.Fold(b); is != (place(b) == 0) || is && got != strings.ToLower(b) || !is && got != "" {
			t.Fatalf("Fold(%q): %q, %v", b, got, is)
		}
		if paths.Host(a, b) != modelHost(a, b) || paths.CoversHost(a, b) != modelCoversHost(a, b) || paths.Order(a, b) != modelOrder(a, b) || paths.HostPattern(a) != (place(a) < 3) {
			t.Fatalf("%q and %q", a, b)
		}
	}
}

// P13.2 to P13.4: paths of many lengths, the second made of the first.
func TestAnyPaths(t *testing.T) {
	r := rand.New(rand.NewSource(14))
	for range 40000 {
		a := "/" + strings.Repeat("a/", r.Intn(4)+[]int{0, 125}[r.Intn(2)]) + strings.Repeat("*", r.Intn(3))
		end := r.Intn(len(a) + 1)
		b := []string{a, a[:end], a[:end] + "*", strings.TrimSuffix(a, "*") + "b", strings.TrimSuffix(a, "*") + "b*", a + "**", a[1:]}[r.Intn(7)]
		if r.Intn(2) == 0 {
			a, b = b, a
		}
		if paths.Path(a, b) != modelPath(a, b) || paths.CoversPath(a, b) != modelCoversPath(a, b) || paths.PathPattern(a) != isPathPattern(a) {
			t.Fatalf("%q and %q", a, b)
		}
	}
}

// P13.6: lists of patterns and of what is none.
func TestAnyLists(t *testing.T) {
	r := rand.New(rand.NewSource(15))
	all := hostTexts()
	for range 100000 {
		l := make([]string, r.Intn(8))
		for i := range l {
			l[i] = all[r.Intn(len(all))]
		}
		host := all[r.Intn(len(all))]
		want, isOne := modelBest(l, host)
		if got, is := paths.Best(l, host); got != want || is != isOne {
			t.Fatalf("Best(%q, %q): %d, %v, not %d, %v", l, host, got, is, want, isOne)
		}
	}
}
