package lines_test

import (
	"slices"
	"strings"
	"testing"

	"turnpike/api"
	"turnpike/lines"
)

type told struct {
	token lines.Token
	fault api.Fault
}

// someTold: a text, and all that Each tells of it.
func someTold() (string, []told) {
	var l []told
	for _, x := range slices.Concat(on(1, doc()), on(2, key(0, "a"), scalar(3, "b")), on(4, item(0), item(2), quoted(key(4, "c"))), on(5, quoted(scalar(1, "d"))), on(6, doc())) {
		l = append(l, told{token: x})
	}
	return "---\na: b\n#\n- - 'c':\n \"d\"\n--- # e\n", l
}

// faulty: the same, with a fault at the end, on a line that has tokens ahead of it.
func faulty() (string, []told) {
	text, l := someTold()
	return text + "- x: *\n---\ny\n", append(l, told{fault: fault(2, 7, api.ErrLine)})
}

// P8.2: left at each token, nothing more is told.
func TestEachLeftEarly(t *testing.T) {
	for _, some := range []func() (string, []told){someTold, faulty} {
		text, all := some()
		each := lines.Each([]byte(text))
		for most := range len(all) + 2 {
			var seen []told
			each(func(x lines.Token, f api.Fault) bool {
				seen = append(seen, told{x, f})
				return len(seen) <= most
			})
			want := min(most+1, len(all)) // one that says no is the last that is called
			if !slices.Equal(seen, all[:want]) {
				t.Errorf("left at %d: %v, want %v", most, seen, all[:want])
			}
		}
		for x, f := range each {
			if (told{x, f}) != all[0] {
				t.Errorf("the first: %v, %v", x, f)
			}
			break
		}
	}
}

// P8.2: gone over again it tells the same, also from within itself.
func TestEachAgain(t *testing.T) {
	for _, some := range []func() (string, []told){someTold, faulty} {
		text, all := some()
		each := lines.Each([]byte(text))
		for range 3 {
			i := 0
			for x, f := range each {
				if (told{x, f}) != all[i] {
					t.Fatalf("token %d: %v, %v, want %v", i, x, f, all[i])
				}
				i++
				var seen []told
				for y, g := range each {
					seen = append(seen, told{y, g})
				}
				if !slices.Equal(seen, all) {
					t.Fatalf("within token %d: %v", i, seen)
				}
			}
			if i != len(all) {
				t.Fatalf("%d tokens, want %d", i, len(all))
			}
		}
	}
}

// P8.2: a fault is told once, with a zero token, and nothing behind it.
func TestEachOfFaults(t *testing.T) {
	for _, text := range []string{"*", "a: \"", "\t", "- - - ]", "x: y: z\n\t\n", strings.Repeat("x", api.MaxText+1)} {
		calls := 0
		lines.Each([]byte(text))(func(x lines.Token, f api.Fault) bool {
			calls++
			if x != (lines.Token{}) || f.Err == api.OK {
				t.Errorf("%.40q: %v, %v", text, x, f)
			}
			return true
		})
		if calls != 1 {
			t.Errorf("%.40q: %d calls", text, calls)
		}
	}
}

// P8.2, P0.1: a sequence of nothing calls nobody.
func TestEachOfNothing(t *testing.T) {
	for _, text := range [][]byte{nil, {}, []byte("\n"), []byte("  # x\n\n")} {
		for x, f := range lines.Each(text) {
			t.Errorf("Each(%q): %v, %v", text, x, f)
		}
	}
	if l, f := lines.Scan(nil); len(l) != 0 || f != (api.Fault{}) {
		t.Errorf("Scan of nil: %v, %v", l, f)
	}
}
