package lines_test

import (
	"math/rand"
	"strings"
	"testing"

	"turnpike/api"
	"turnpike/lines"
)

func wantPlain(t *testing.T, s string, want bool) {
	t.Helper()
	if got := lines.Plain(s); got != want {
		t.Errorf("Plain(%.100q): %v", s, got)
	}
}

// P8.3.
func TestPlain(t *testing.T) {
	for _, s := range []string{"/a/*", "x", "a b", "a  b", "-5", "--", "-- x", "---x", "---#", "--- x", "----", "-a", "-:x", "a:b", "a:#b", "a#b", "a'b\"", "~", "\\", "\x80", "\xff", "null", "a,b", "(*)", strings.Repeat("k", 65)} {
		wantPlain(t, s, true)
	}
	for _, s := range []string{
		"", " ", "   ", " a", "a ", "  a  ", "-", "- ", "- a", "---", "--- ", "--- # x", "--- #", "---  #", "- - x", "a:", "a: ", "a: b", ":", ":a", "a b:", "a b: c", "--: x", "a #b", "a #", "#", "#a", " #a",
		"\"", "\"a\"", "'a'", "''", "*", "*a", "a\nb", "a\n", "\n", "\na", "a\tb", "\t", "a\x00", "a\x7f", "a\r", "\x1f", "[", "]", "{", "}", "&a", "!a", "|", ">", "%", "@", "?", "? a", "`", ",",
	} {
		wantPlain(t, s, false)
	}
	for c := range 256 {
		s := string([]byte{byte(c)})
		wantPlain(t, s, c > 32 && c != 127 && !strings.Contains("-\"'#,[]{}&*!|>%@?:`", s))
		wantPlain(t, "a"+s+"a", c >= 32 && c != 127)
		wantPlain(t, "a"+s, c > 32 && c != 127 && s != ":")
		wantPlain(t, s+"a", c > 32 && c != 127 && !strings.Contains("\"'#,[]{}&*!|>%@?:`", s))
	}
}

// P8.3: MaxText does not bound it.
func TestPlainOfLongTexts(t *testing.T) {
	for _, n := range []int{api.MaxText - 1, api.MaxText, api.MaxText + 1, 1 << 20} {
		wantPlain(t, strings.Repeat("x", n), true)
		wantPlain(t, strings.Repeat("-", n), true)
		wantPlain(t, strings.Repeat("x y", n/3), true)
		for _, tail := range []string{" ", ":", " #", ": x", "\n", "\t", "\x7f"} {
			wantPlain(t, strings.Repeat("x", n)+tail, false)
		}
		wantPlain(t, strings.Repeat("- ", n), false)
		wantPlain(t, strings.Repeat(" ", n), false)
		wantPlain(t, "\""+strings.Repeat("x", n)+"\"", false)
	}
}

func wantQuote(t *testing.T, s, want string) {
	t.Helper()
	if got := lines.Quote(s); got != want {
		t.Errorf("Quote(%.100q): %.100q, want %.100q", s, got, want)
	}
}

// P8.3.
func TestQuote(t *testing.T) {
	wantQuote(t, "", `""`)
	wantQuote(t, "abc", `"abc"`)
	wantQuote(t, "a\"\n\x00\xff", "\"a\\\"\\n\\x00\xff\"")
	wantQuote(t, `\n'#: `, `"\\n'#: "`)
	wantQuote(t, "\u00e9", "\"\u00e9\"")
	wantQuote(t, strings.Repeat("\x01", 1<<17), `"`+strings.Repeat(`\x01`, 1<<17)+`"`)
	const digits = "0123456789abcdef"
	for c := range 256 {
		s := string([]byte{byte(c)})
		want := s
		switch {
		case s == `"`, s == `\`:
			want = `\` + s
		case s == "\n":
			want = `\n`
		case s == "\t":
			want = `\t`
		case c < 32 || c == 127:
			want = `\x` + string([]byte{digits[c/16], digits[c%16]})
		}
		wantQuote(t, s, `"`+want+`"`)
		wantQuote(t, "a"+s+s+"1", `"a`+want+want+`1"`)
	}
}

// wantBack: the text, quoted, is read as itself.
func wantBack(t *testing.T, s string, blanks int) {
	t.Helper()
	line := strings.Repeat(" ", blanks) + lines.Quote(s)
	wantTokens(t, line, on(1, quoted(scalar(blanks, s))))
	wantTokens(t, "# x\n"+line+"\n", on(2, quoted(scalar(blanks, s))))
}

// P8.4.
func TestThereAndBack(t *testing.T) {
	all := make([]byte, 256)
	for c := range 256 {
		all[c] = byte(c)
		for _, s := range []string{string([]byte{byte(c)}), string([]byte{byte(c), byte(c)}), "a" + string([]byte{byte(c)}), string([]byte{byte(c)}) + "41", "\\" + string([]byte{byte(c)})} {
			wantBack(t, s, c%5)
		}
	}
	wantBack(t, string(all), 0)
	wantBack(t, "", 0)
	wantBack(t, "", api.MaxText-10)
	wantBack(t, strings.Repeat("x", api.MaxText-10), 2)
	r := rand.New(rand.NewSource(1))
	for range 2000 {
		s := make([]byte, r.Intn(30))
		r.Read(s)
		wantBack(t, string(s), r.Intn(4)*r.Intn(20))
	}
}
