package lines_test

import (
	"slices"
	"strings"
	"testing"

	"turnpike/api"
	"turnpike/lines"
)

// hosts: lines of all forms, right and wrong ones, with a place (\x00) at which a byte is put.
func hosts() []string {
	return []string{"\x00", "a\x00", "\x00a", "k: \x00", "k: a\x00b", "- \x00", "# \x00", "#\x00", "  \x00", "k: v #\x00", "--- # \x00", "---\x00", "k: \"\x00\"", "k: '\x00'", "\"\x00\": k", "k: * \x00", "k: \"\x00", "k: \"a\" b\x00", ": \x00", "\x00: *", "k:\x00", "-\x00"}
}

// P8.1: bytes that no line may have are found first, ErrTab ahead of ErrLine, wherever they are.
func TestStrayBytes(t *testing.T) {
	for _, host := range hosts() {
		for c := range 256 {
			line := strings.ReplaceAll(host, "\x00", string([]byte{byte(c)}))
			switch {
			case c == 10: // no byte of a line
			case c == 9:
				wantWrong(t, line, api.ErrTab)
				wantWrong(t, "\x01\r"+line, api.ErrTab)
				wantWrong(t, line+"\x7f", api.ErrTab)
				wantWrong(t, "* "+line+" \"", api.ErrTab)
			case c < 32 || c == 127:
				wantWrong(t, line, api.ErrLine)
				wantWrong(t, "k: \"x"+line, api.ErrLine)
				wantWrong(t, line+"\t", api.ErrTab)
			}
		}
	}
	wantFault(t, "a\r\nb\r\n", nil, fault(0, 1, api.ErrLine))
}

// P8.1: of one line the first error from the left.
func TestFirstErrorOfALine(t *testing.T) {
	wantWrong(t, `"a" x: "b`, api.ErrQuote)
	wantWrong(t, `* "x`, api.ErrLine)
	wantWrong(t, `a: * "x`, api.ErrLine)
	wantWrong(t, `a: b: "c`, api.ErrLine)
	wantWrong(t, `"a": "b" : *`, api.ErrQuote)
	wantWrong(t, `'a: *`, api.ErrQuote)
	wantWrong(t, `- - ] 'x`, api.ErrLine)
}

// P8.1: the first line that has an error, and how many documents began ahead of it.
func TestFirstLineThatIsWrong(t *testing.T) {
	wantFault(t, "x\n---\n---\n\ty\n", slices.Concat(on(1, scalar(0, "x")), on(2, doc()), on(3, doc())), fault(2, 4, api.ErrTab))
	wantFault(t, "\n\n#\na: *\n\tb\n\"", nil, fault(0, 4, api.ErrLine))
	wantFault(t, "a: \"\n\t\n\x01", nil, fault(0, 1, api.ErrQuote))
	wantFault(t, "---\n ---\n", on(1, doc()), fault(1, 2, api.ErrLine))
	wantFault(t, "--- #\x01\n---\n", nil, fault(0, 1, api.ErrLine))
	wantFault(t, "---\t\n", nil, fault(0, 1, api.ErrTab))
	wantFault(t, "\n\n\n\x7f", nil, fault(0, 4, api.ErrLine))
	wantFault(t, "---: x\n- ---x\n'---'\n*", slices.Concat(on(1, key(0, "---"), scalar(5, "x")), on(2, item(0), scalar(2, "---x")), on(3, quoted(scalar(0, "---")))), fault(0, 4, api.ErrLine))
	wantFault(t, strings.Repeat("---\n", 1000)+"*\n---\n", slices.Collect(func(yield func(lines.Token) bool) {
		for i := range 1000 {
			if !yield(on(i+1, doc())[0]) {
				return
			}
		}
	}), fault(1000, 1001, api.ErrLine))
}

// P8.1: the numbers of lines, also of those that say nothing, and of one without an end.
func TestLineNumbers(t *testing.T) {
	want := slices.Concat(on(1, key(0, "a")), on(3, item(2), scalar(4, "b")), on(6, doc()), on(8, scalar(0, "c")))
	wantTokens(t, "a:\n\n  - b\n# d\n    \n---\n\nc", want)
	wantTokens(t, "a:\n\n  - b\n# d\n    \n---\n\nc\n", want)
	wantTokens(t, "a:\n\n  - b\n# d\n    \n---\n\nc\n\n \n#", want)
	wantTokens(t, strings.Repeat("\n", api.MaxText-1)+"x", on(api.MaxText, scalar(0, "x")))
}

// P8.1, P8.2: a text's bound.
func TestLongTexts(t *testing.T) {
	for _, x := range []struct {
		byte string
		want []lines.Token
	}{{"x", on(1, scalar(0, strings.Repeat("x", api.MaxText)))}, {" ", nil}, {"#", nil}, {"\n", nil}} {
		text := strings.Repeat(x.byte, api.MaxText)
		wantTokens(t, text, x.want)
		wantFault(t, text+x.byte, nil, fault(0, 0, api.ErrLong))
	}
	for _, head := range []string{"", "---\n", "\t", "*", "---\n---\n\"", "\x00"} {
		for _, n := range []int{1, 2, 1000, api.MaxText} {
			wantFault(t, head+strings.Repeat("x", api.MaxText-len(head)+n), nil, fault(0, 0, api.ErrLong))
		}
	}
	wantFault(t, string(make([]byte, api.MaxText)), nil, fault(0, 1, api.ErrLine))
}
