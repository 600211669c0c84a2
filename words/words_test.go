package words_test

import (
	"strings"
	"testing"

	"turnpike/words"
)

const letters = "ABCDEFGHIJKLMNOPQRSTUVWXYZabcdefghijklmnopqrstuvwxyz0123456789-_."

// DOC.md's Words: a name's bytes, each at its beginning, within it, at its end and alone.
func TestBytesOfNames(t *testing.T) {
	for c := range 256 {
		s := string([]byte{byte(c)})
		want := strings.Contains(letters, s)
		if words.InName(byte(c)) != want {
			t.Errorf("InName(%q)", s)
		}
		for _, name := range []string{s, s + "a", "a" + s, "a" + s + "a", s + s} {
			if words.IsName(name) != want {
				t.Errorf("IsName(%q)", name)
			}
		}
	}
}

// DOC.md's Words: how many bytes a name has.
func TestLengthsOfNames(t *testing.T) {
	for n := range 200 {
		if words.IsName(strings.Repeat("n", n)) != (n >= 1 && n <= 64) {
			t.Errorf("a name of %d bytes", n)
		}
	}
	if !words.IsName(letters[1:]) || words.IsName(letters) {
		t.Error("all the bytes that a name may have but one, and with it")
	}
}
