package paths_test

import (
	"strings"
	"testing"

	"turnpike/paths"
)

const (
	great = "ABCDEFGHIJKLMNOPQRSTUVWXYZ"
	hosts = great + "abcdefghijklmnopqrstuvwxyz0123456789-."
)

// P13.2: the chapter's examples.
func TestExamplesOfPatterns(t *testing.T) {
	for s, want := range map[string]bool{"*": true, "*.a": true, "*.": false, "*a": false, "a.*": false, "a": true, "": false, "**": false, "*.*": false, "*.*.a": false, ".": true, "*..": true, "A.b-9": true, "a_b": false} {
		if paths.HostPattern(s) != want {
			t.Errorf("HostPattern(%q)", s)
		}
	}
	for s, want := range map[string]bool{"*": true, "/a*": true, "/a*b": true, "a*": false, "/**": true, "": false, "**": false, "/": true, "/*": true, "a": false, "*/": false, "/a b": false, "/\u00e9": false} {
		if paths.PathPattern(s) != want {
			t.Errorf("PathPattern(%q)", s)
		}
	}
	for s, want := range map[string]bool{"*": true, "GET": true, "": false, "get": false, "GET*": false, "**": false, "M-SEARCH": false, "G1": false, "A": true, "Z": true} {
		if paths.MethodPattern(s) != want {
			t.Errorf("MethodPattern(%q)", s)
		}
	}
}

// P13.2: each byte, behind, ahead of and between others.
func TestBytesOfPatterns(t *testing.T) {
	for c := range 256 {
		s := string([]byte{byte(c)})
		inHost, inMethod, inPath := strings.Contains(hosts, s), strings.Contains(great, s), c >= 33 && c <= 126
		for _, x := range []string{"A" + s, s + "A", "A" + s + "A"} {
			if paths.HostPattern(x) != inHost || paths.HostPattern("*."+x) != inHost {
				t.Errorf("HostPattern(%q)", x)
			}
			if paths.MethodPattern(x) != inMethod {
				t.Errorf("MethodPattern(%q)", x)
			}
			if paths.PathPattern("/"+x) != inPath || paths.PathPattern("/"+x+"*") != inPath {
				t.Errorf("PathPattern(%q)", "/"+x)
			}
			if paths.PathPattern(s+x) != (c == '/') {
				t.Errorf("PathPattern(%q)", s+x)
			}
		}
	}
}

// P13.2: how many bytes a pattern has.
func TestLengthsOfPatterns(t *testing.T) {
	for n := range 300 {
		s := strings.Repeat("A", n)
		is := n >= 1 && n <= 64
		if paths.HostPattern(s) != is || paths.HostPattern("*."+s) != is || paths.MethodPattern(s) != is {
			t.Errorf("%d bytes of a host or a method", n)
		}
		if paths.PathPattern("/"+s) != (n <= 255) || paths.PathPattern("/"+s+"*") != (n <= 255) {
			t.Errorf("%d bytes of a path behind its first one", n)
		}
	}
}

// P13.1: the chapter's examples, and lengths.
func TestExamplesOfFold(t *testing.T) {
	for s, want := range map[string]string{
		"Shop.Example": "shop.example", "a_b": "", "": "", "*": "", "*.a": "", ".": ".", "-": "-", "AZ@": "", "AZ[": "", "AZaz09-.": "azaz09-.", "\u00c4": "", "\u212a": "",
		strings.Repeat("H", 64): strings.Repeat("h", 64), strings.Repeat("H", 65): "",
	} {
		if got, is := paths.Fold(s); got != want || is != (want != "") {
			t.Errorf("Fold(%q): %q, %v", s, got, is)
		}
	}
}

// P13.1: each byte.
func TestBytesOfFold(t *testing.T) {
	for c := range 256 {
		s := string([]byte{byte(c)})
		want := ""
		if strings.Contains(hosts, s) {
			want = strings.ToLower(s)
		}
		if got, is := paths.Fold(s); got != want || is != (want != "") {
			t.Errorf("Fold(%q): %q, %v", s, got, is)
		}
		if got, is := paths.Fold("Q" + s + "Q"); is != (want != "") || is && got != "q"+want+"q" {
			t.Errorf("Fold(%q): %q, %v", "Q"+s+"Q", got, is)
		}
	}
}

// pairs: a call, two texts, and what it answers of them.
type pairs []struct {
	a, b string
	want bool
}

func (l pairs) check(t *testing.T, name string, call func(a, b string) bool) {
	t.Helper()
	for _, c := range l {
		if call(c.a, c.b) != c.want {
			t.Errorf("%s(%q, %q): not %v", name, c.a, c.b, c.want)
		}
	}
}

// P13.3: the chapter's examples, and what is no pattern, and no host, path or method.
func TestExamplesOfTaking(t *testing.T) {
	pairs{
		{"*.A", "x.a", true}, {"*.a", "x.A", true}, {"*.a", "a", false}, {"*.a", "xa", false}, {"*.a", ".a", true}, {"*.a", "x.y.a", true}, {"*.a", "x.a.b", false},
		{"*", "a_b", false}, {"*", "", false}, {"*", "*", false}, {"*", "*.a", false}, {"*", "a", true}, {"a", "A", true}, {"A", "a", true}, {"a", "ab", false}, {"ab", "a", false},
		{"*.a", "*.a", false}, {"*.a", "x_y.a", false}, {"a_b", "a_b", false}, {"", "", false}, {"", "a", false}, {"*.", "a.", false}, {"*a", "xa", false}, {"a*", "ab", false}, {"**", "a", false}, {"*..", "a..", true}, {"*..", "..", true}, {"*..", ".", false},
	}.check(t, "Host", paths.Host)
	pairs{
		{"/a*", "/ab", true}, {"/a*", "/a", true}, {"/a*", "/a*", true}, {"/a*", "/", false}, {"/a*", "/ba", false}, {"/a", "/a/", false}, {"/a", "/a", true}, {"/a", "/A", false},
		{"*", "a", false}, {"*", "", false}, {"*", "*", false}, {"*", "/", true}, {"*", "/*", true}, {"/*", "/", true}, {"/**", "/", false}, {"/**", "/*", true}, {"/**", "/*a", true}, {"/**", "/a", false},
		{"/a*b", "/axb", false}, {"/a*b", "/a*b", true}, {"/a*", "/a b", false}, {"/a b*", "/a b", false}, {"/a b", "/a b", false}, {"", "/", false}, {"", "", false}, {"a*", "ab", false}, {"**", "/", false}, {"**", "*", false},
	}.check(t, "Path", paths.Path)
	pairs{
		{"*", "GET", true}, {"*", "get", false}, {"*", "", false}, {"*", "*", false}, {"GET", "GET", true}, {"GET", "PUT", false}, {"GET", "GETS", false}, {"GET", "get", false}, {"get", "GET", false}, {"get", "get", false}, {"", "", false}, {"", "GET", false}, {"GE*", "GET", false}, {"GET", "*", false},
	}.check(t, "Method", paths.Method)
}

// P13.3: lengths at the limits: what would take only what is too long takes nothing.
func TestLengthsOfTaking(t *testing.T) {
	for n := range 68 {
		h := strings.Repeat("h", n)
		if paths.Host("*", h) != (n >= 1 && n <= 64) || paths.Host(h, h) != (n >= 1 && n <= 64) {
			t.Errorf("a host of %d bytes", n)
		}
		if paths.Host("*."+h, "."+h) != (n >= 1 && n <= 63) {
			t.Errorf("a host of %d bytes below one", n+1)
		}
		m := strings.Repeat("M", n)
		if paths.Method("*", m) != (n >= 1 && n <= 64) || paths.Method(m, m) != (n >= 1 && n <= 64) {
			t.Errorf("a method of %d bytes", n)
		}
	}
	for n := range 260 {
		p := "/" + strings.Repeat("p", n)
		if is := n <= 255; paths.Path("*", p) != is || paths.Path(p, p) != is || paths.Path(p+"*", p) != is || paths.Path("/*", p) != is {
			t.Errorf("a path of %d bytes", n+1)
		}
		if paths.Path(p+"*", p+"q") != (n <= 254) {
			t.Errorf("a path of %d bytes behind one of %d", n+2, n+1)
		}
	}
}

// P13.4: the chapter's examples, and what is no pattern.
func TestExamplesOfCovering(t *testing.T) {
	pairs{
		{"*.a", "*.b.a", true}, {"*.a", "a", false}, {"*.a", "b.a", true}, {"*.a", ".a", true}, {"*.a", "*..a", true}, {"*.a", "*.a", true}, {"*.A", "*.a", true}, {"*.a", "*.ba", false}, {"*.a", "ba", false}, {"*.b.a", "*.a", false}, {"*.a", "*", false},
		{"*", "*", true}, {"*", "*.a", true}, {"*", "a", true}, {"A", "a", true}, {"a", "*.a", false}, {"b.a", "*.b.a", false}, {"a", "*", false}, {"a", "b", false}, {".a", "*..a", false},
		{"*", "a_b", false}, {"*", "", false}, {"*", "**", false}, {"", "", false}, {"a_b", "a_b", false}, {"*.", "a.", false}, {"*.", "*.", false}, {"*.a", "x_.a", false}, {"*.a", "*.x_.a", false},
		{"*." + strings.Repeat("h", 64), "*." + strings.Repeat("H", 64), true}, {"*." + strings.Repeat("h", 64), "." + strings.Repeat("h", 64), false},
	}.check(t, "CoversHost", paths.CoversHost)
	pairs{
		{"/a*", "/a*", true}, {"/a", "/a*", false}, {"/a*", "/a", true}, {"/a*", "/ab", true}, {"/a*", "/ab*", true}, {"/ab*", "/a*", false}, {"/ab*", "/a", false}, {"/a", "/a", true}, {"/a", "/A", false}, {"/a", "/ab", false}, {"/ab", "/a", false},
		{"/a**", "/a*", false}, {"/a*", "/a**", true}, {"/a**", "/a**", true}, {"/a**", "/a*b", true}, {"/a*b", "/a*b", true}, {"/a*b*", "/a*b", true}, {"/a*b", "/a*b*", false}, {"/**", "/***", true}, {"/***", "/**", false},
		{"*", "/a", true}, {"*", "*", true}, {"*", "/a*", true}, {"/a*", "*", false}, {"/*", "*", false}, {"/*", "/", true}, {"/", "/*", false},
		{"*", "a", false}, {"*", "", false}, {"*", "**", false}, {"", "", false}, {"", "/a", false}, {"a", "a", false}, {"a*", "ab", false}, {"/ *", "/ ", false}, {"/ ", "/ ", false}, {"/*", "/ ", false},
	}.check(t, "CoversPath", paths.CoversPath)
	pairs{
		{"*", "GET", true}, {"*", "*", true}, {"GET", "*", false}, {"GET", "GET", true}, {"GET", "PUT", false}, {"get", "get", false}, {"*", "get", false}, {"*", "", false}, {"", "", false}, {"GET", "get", false}, {"get", "GET", false}, {"**", "**", false}, {"**", "GET", false},
	}.check(t, "CoversMethod", paths.CoversMethod)
}

// P13.5: the chapter's examples, and a row of texts that stand in the order.
func TestExamplesOfOrder(t *testing.T) {
	for _, c := range []struct {
		a, b string
		want int
	}{{"b", "*.z", -1}, {"*.a", "*.bc", 1}, {"*", "*.a", 1}, {"A", "a", 0}, {"*.A", "*.a", 0}, {"*", "*", 0}, {"_A", "_a", -1}, {"_a", "_a", 0}} {
		if got := paths.Order(c.a, c.b); got != c.want {
			t.Errorf("Order(%q, %q): %d", c.a, c.b, got)
		}
	}
	row := []string{
		"-", ".", ".a", "0", "9", "A", "aa", "B", "bA", "z", strings.Repeat("z", 64),
		"*." + strings.Repeat("a", 64), "*." + strings.Repeat("z", 64), "*.aaa", "*.AAB", "*.zz", "*.-", "*..", "*.B", "*.z", "*",
		"", "\x00", "**", "*.", "*._", "*A", "*a", "_A", "_B", "_a", "a*", "a_b", strings.Repeat("a", 65), "z_", "\xff",
	}
	for i, a := range row {
		for j, b := range row {
			want := 0
			if i < j {
				want = -1
			} else if i > j {
				want = 1
			}
			if got := paths.Order(a, b); got != want {
				t.Errorf("Order(%q, %q): %d", a, b, got)
			}
		}
	}
}

// P13.6: the chapter's examples, lists of none, and lists of what is no pattern.
func TestExamplesOfBest(t *testing.T) {
	l := []string{"*", "*.a", "*.b.a", "*.B.a"}
	for _, c := range []struct {
		patterns []string
		host     string
		want     int
		is       bool
	}{
		{l, "x.b.a", 2, true}, {l, "X.B.A", 2, true}, {l, "b.a", 1, true}, {l, "z", 0, true}, {l, "", 0, false}, {l, "a_b", 0, false}, {l, "*", 0, false},
		{nil, "a", 0, false}, {[]string{}, "a", 0, false}, {l[1:], "a", 0, false}, {l[1:], "b.a", 0, true}, {l[1:], "c.b.a", 1, true},
		{[]string{"", "a_b", "**", "*a", "b", "*.c"}, "a", 0, false}, {[]string{"", "a_", "**", "A", "a"}, "a", 3, true},
		{[]string{"*", "*.A", "X.a", "x.a"}, "x.a", 2, true}, {[]string{"b", "*", "*"}, "a", 1, true}, {[]string{"*.a", "*..a", "*.x..a"}, ".a", 0, true},
	} {
		if got, is := paths.Best(c.patterns, c.host); got != c.want || is != c.is {
			t.Errorf("Best(%q, %q): %d, %v", c.patterns, c.host, got, is)
		}
	}
}
