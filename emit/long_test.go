package emit_test

import (
	"slices"
	"strings"
	"testing"

	"turnpike/api"
	"turnpike/lines"
)

// P10.1: a text has at most MaxText bytes, its indents and line ends too; what is no tree is that first.
func TestBoundOfTexts(t *testing.T) {
	for _, s := range []string{"x", "\"\"", "a:\nb: \"\\n\"", "- y\n- \"\\x00\"", "a:\n  - b: c\n    d:\n      - - e: x", strings.Repeat("- ", 15) + "\"\\\\\""} {
		l := treeOf(t, s)
		last := len(l) - 1
		room := 65536 - len(modelText(l))
		for _, more := range []int{-1, 0, 1, 2, 65536, 1 << 20} {
			l := slices.Clone(l)
			l[last].Text += strings.Repeat("x", room+more)
			if more <= 0 {
				wantText(t, l, modelText(l))
			} else {
				wantError(t, l, api.ErrLong)
			}
			wantError(t, append(l, scalar("x")), api.ErrEmit)
			l[last].Quoted, l[last].Text = false, l[last].Text+":"
			wantError(t, l, api.ErrEmit)
		}
	}
}

// P10.1: keys, quotes and what stands behind backslashes are counted as they are written.
func TestBoundOfQuoted(t *testing.T) {
	for _, c := range []string{"x", "\"", "\n", "\x00", "\xff"} {
		each := len(lines.Quote(c)) - 2
		most := (65536 - len("\"\"\n")) / each
		s := strings.Repeat(c, most)
		wantText(t, []api.Node{quoted(s)}, lines.Quote(s)+"\n")
		wantError(t, []api.Node{quoted(s + c)}, api.ErrLong)
		most = (65536 - len("\"\":\n")) / each
		s = strings.Repeat(c, most)
		wantText(t, mapOf(under(s, scalar(""))), lines.Quote(s)+":\n")
		wantError(t, mapOf(under(s+c, scalar(""))), api.ErrLong)
		wantError(t, mapOf(under("a", scalar("")), under(s+s, scalar("")), under("b", quoted(c))), api.ErrLong)
	}
}

// P10.1: it is a text's last line, or a line's end alone, by which it is too long.
func TestBoundByManyLines(t *testing.T) {
	l := seqOf(slices.Repeat([]api.Node{scalar("1234567890123")}, 4095)...) // 16 bytes a line
	wantText(t, l, strings.Repeat("- 1234567890123\n", 4095))
	l[1].Text += strings.Repeat("4", 16)
	wantText(t, l, modelText(l))
	for at := 1; at < 4096; at += 500 {
		more := slices.Clone(l)
		more[at].Text += "5"
		wantError(t, more, api.ErrLong)
	}
}

// P10.1, P0.1: texts far beyond the bound, many of them one and the same.
func TestGreatTexts(t *testing.T) {
	zeros := string(make([]byte, 1<<20))
	wantError(t, seqOf(slices.Repeat([]api.Node{quoted(zeros)}, 4095)...), api.ErrLong)
	wantError(t, seqOf(slices.Repeat([]api.Node{quoted(zeros[:65536])}, 4095)...), api.ErrLong)
	wantError(t, seqOf(slices.Repeat([]api.Node{quoted(zeros)}, 4096)...), api.ErrEmit)
	plain := strings.Repeat("x", 1<<26)
	wantError(t, []api.Node{scalar(plain)}, api.ErrLong)
	wantError(t, []api.Node{scalar(plain + " ")}, api.ErrEmit)
	wantError(t, mapOf(under(plain, scalar("")), under(plain+"y", scalar(""))), api.ErrLong)
	wantError(t, mapOf(under(plain, scalar("")), under(plain+"y", scalar("")), under(plain, scalar(""))), api.ErrEmit)
}
