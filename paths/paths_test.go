package paths_test

import (
	"strings"
	"testing"

	"turnpike/paths"
)

const (
	great = "ABCDEFGHIJKLMNOPQRSTUVWXYZ"
	hosts = great + "abcdefghijklmnopqrstuvwxyz0123456789-."
)

// P13.2: the chapter's examples.
func TestExamplesOfPatterns(t *testing.T) {
	for s, want := range map[string]bool{"*": true, "*.a": true, "*.": false, "*a": false, "a.*": false, "a": true, "": false, "**": false, "*.*": false, "*.*.a": false, ".": true, "*..": true, "A.b-9": true, "a_b": false} {
		if paths.HostPattern(s) != want {
			t.Errorf("HostPattern(%q)", s)
		}
	}
	for s, want := range map[string]bool{"*": true, "/a*": true, "/a*b": true, "a*": false, "/**": true, "": false, "**": false, "/": true, "/*": true, "a": false, "*/": false, "/a b": false, "/\u00e9": false} {
		if paths.PathPattern(s) != want {
			t.Errorf("PathPattern(%q)", s)
		}
	}
	for s, want := range map[string]bool{"*": true, "GET": true, "": false, "get": false, "GET*": false, "**": false, "M-SEARCH": false, "G1": false, "A": true, "Z": true} {
		if paths.MethodPattern(s) != want {
			t.Errorf("MethodPattern(%q)", s)
		}
	}
}

// P13.2: each byte, behind, ahead of and between others.
func TestBytesOfPatterns(t *testing.T) {
	for c := range 256 {
		s := string([]byte{byte(c)})
		inHost, inMethod, inPath := strings.Contains(hosts, s), strings.Contains(great, s), c >= 33 && c <= 126
		for _, x := range []string{"A" + s, s + "A", "A" + s + "A"} {
			if paths.HostPattern(x) != inHost || paths.HostPattern("*."+x) != inHost {
				t.Errorf("HostPattern(%q)", x)
			}
			if paths.MethodPattern(x) != inMethod {
				t.Errorf("MethodPattern(%q)", x)
			}
			if paths.PathPattern("/"+x) != inPath || paths.PathPattern("/"+x+"*") != inPath {
				t.Errorf("PathPattern(%q)", "/"+x)
			}
			if paths.PathPattern(s+x) != (c == '/') {
				t.Errorf("PathPattern(%q)", s+x)
			}
		}
	}
}

// P13.2: how many bytes a pattern has.
func TestLengthsOfPatterns(t *testing.T) {
	for n := range 300 {
		s := strings.Repeat("A", n)
		is := n >= 1 && n <= 64
		if paths.HostPattern(s) != is || paths.HostPattern("*."+s) != is || paths.MethodPattern(s) != is {
			t.Errorf("%d bytes of a host or a method", n)
		}
		if paths.PathPattern("/"+s) != (n <= 255) || paths.PathPattern("/"+s+"*") != (n <= 255) {
			t.Errorf("%d bytes of a path behind its first one", n)
		}
	}
}
