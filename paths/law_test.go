package paths_test

import (
	"math/rand"
	"strings"
	"testing"

	"turnpike/paths"
)

// sortOf is what holds together of one sort of patterns.
type sortOf struct {
	name          string
	texts         []string
	is            func(string) bool
	takes, covers func(a, b string) bool
	fold          func(string) string
}

func sorts() []sortOf {
	same := func(s string) string { return s }
	return []sortOf{
		{"hosts", hostTexts(), paths.HostPattern, paths.Host, paths.CoversHost, strings.ToLower},
		{"paths", texts("/a*", 4), paths.PathPattern, paths.Path, paths.CoversPath, same},
		{"methods", texts("AZ*", 3), paths.MethodPattern, paths.Method, paths.CoversMethod, same},
	}
}

// P13.7: each pattern covers itself, and nothing else covers itself; what a covered one takes the covering one takes.
func TestWithin(t *testing.T) {
	for _, s := range sorts() {
		for _, a := range s.texts {
			if s.covers(a, a) != s.is(a) {
				t.Errorf("%s: %q and itself", s.name, a)
			}
			for _, b := range s.texts {
				if !s.covers(a, b) {
					continue
				}
				if s.covers(b, a) && s.fold(a) != s.fold(b) {
					t.Errorf("%s: %q and %q cover one another", s.name, a, b)
				}
				for _, c := range s.texts {
					if s.takes(b, c) && !s.takes(a, c) {
						t.Errorf("%s: %q covers %q, which takes %q", s.name, a, b, c)
					}
				}
			}
		}
	}
}

// P13.7: to cover goes from one to the next.
func TestCoveringGoesOn(t *testing.T) {
	for _, s := range sorts() {
		for _, a := range s.texts {
			for _, b := range s.texts {
				if !s.covers(a, b) {
					continue
				}
				for _, c := range s.texts {
					if s.covers(b, c) && !s.covers(a, c) {
						t.Errorf("%s: %q covers %q, which covers %q", s.name, a, b, c)
					}
				}
			}
		}
	}
}

// P13.8: the opposite, and a covered pattern that does not stand behind; two that cover one another stand alike.
func TestOrderOfTwo(t *testing.T) {
	all := hostTexts()
	for _, a := range all {
		for _, b := range all {
			o := paths.Order(a, b)
			if o != -paths.Order(b, a) || o < -1 || o > 1 {
				t.Errorf("Order of %q and %q: %d", a, b, o)
			}
			if paths.CoversHost(a, b) && o < 0 {
				t.Errorf("%q covers %q, which stands behind", a, b)
			}
			if paths.CoversHost(a, b) && paths.CoversHost(b, a) && o != 0 {
				t.Errorf("%q and %q cover one another: %d", a, b, o)
			}
		}
	}
}

// P13.8: three texts.
func TestOrderOfThree(t *testing.T) {
	all := hostTexts()
	for _, a := range all {
		for _, b := range all {
			if paths.Order(a, b) > 0 {
				continue
			}
			for _, c := range all {
				if paths.Order(b, c) <= 0 && paths.Order(a, c) > 0 {
					t.Errorf("%q, %q, %q", a, b, c)
				}
			}
		}
	}
}

// P13.9: no other that takes the host is covered by the best one, but such as stand with it.
func TestNarrowest(t *testing.T) {
	r := rand.New(rand.NewSource(16))
	all := hostTexts()
	for range 50000 {
		l := make([]string, r.Intn(10))
		for i := range l {
			l[i] = all[r.Intn(len(all))]
		}
		host := all[r.Intn(len(all))]
		best, is := paths.Best(l, host)
		if is && !paths.Host(l[best], host) {
			t.Fatalf("Best(%q, %q): %d, which does not take it", l, host, best)
		}
		for _, p := range l {
			if !is && paths.Host(p, host) {
				t.Fatalf("Best(%q, %q): none, and %q takes it", l, host, p)
			}
			if is && paths.Host(p, host) && paths.CoversHost(l[best], p) && paths.Order(l[best], p) != 0 {
				t.Fatalf("Best(%q, %q): %d, which covers %q", l, host, best, p)
			}
		}
	}
}

// P0.1: long texts and odd bytes are answered, and are nothing.
func TestOddTexts(t *testing.T) {
	for _, s := range []string{strings.Repeat("a", 1<<20), "*." + strings.Repeat("a.", 1<<19), "/" + strings.Repeat("*", 1<<20), "\x00", "\xff\xfe", "*.\x00", "/\x7f", "\u00e4"} {
		if paths.HostPattern(s) || paths.PathPattern(s) || paths.MethodPattern(s) || paths.CoversHost("*", s) || paths.CoversPath("*", s) || paths.CoversMethod("*", s) {
			t.Errorf("%.9q is a pattern", s)
		}
		if paths.Host(s, s) || paths.Path(s, s) || paths.Method(s, s) || paths.Host("*", s) || paths.Path("*", s) || paths.Method("*", s) {
			t.Errorf("%.9q is taken", s)
		}
		if folded, is := paths.Fold(s); folded != "" || is || paths.Order(s, s) != 0 || paths.Order(s, "*") != 1 {
			t.Errorf("%.9q as a host", s)
		}
		if i, is := paths.Best([]string{s, "a"}, s); i != 0 || is {
			t.Errorf("%.9q among others: %d", s, i)
		}
	}
}
