package lines_test

import (
	"slices"
	"strings"
	"testing"

	"turnpike/api"
	"turnpike/lines"
)

func doc() lines.Token                     { return lines.Token{Kind: lines.Doc} }
func item(col int) lines.Token             { return lines.Token{Kind: lines.Item, Col: col} }
func key(col int, s string) lines.Token    { return lines.Token{Kind: lines.Key, Col: col, Text: s} }
func scalar(col int, s string) lines.Token { return lines.Token{Kind: lines.Scalar, Col: col, Text: s} }

func quoted(t lines.Token) lines.Token {
	t.Quoted = true
	return t
}

// on: the same tokens on a line.
func on(line int, l ...lines.Token) []lines.Token {
	l = slices.Clone(l)
	for i := range l {
		l[i].Line = line
	}
	return l
}

func fault(doc, line int, e api.Errno) api.Fault { return api.Fault{Doc: doc, Line: line, Err: e} }

// wantTokens: Scan and Each of a text tell these tokens, and no fault.
func wantTokens(t *testing.T, text string, want []lines.Token) {
	t.Helper()
	l, f := lines.Scan([]byte(text))
	if f != (api.Fault{}) || !slices.Equal(l, want) {
		t.Errorf("Scan(%.100q): %v, %v, want %v", text, brief(l), f, brief(want))
	}
	if l, faults := gather(text); len(faults) != 0 || !slices.Equal(l, want) {
		t.Errorf("Each(%.100q): %v, %v, want %v", text, brief(l), faults, brief(want))
	}
}

// wantFault: Scan tells that fault and no tokens; Each the tokens of the lines ahead, then that fault.
func wantFault(t *testing.T, text string, ahead []lines.Token, want api.Fault) {
	t.Helper()
	l, f := lines.Scan([]byte(text))
	if f != want || len(l) != 0 {
		t.Errorf("Scan(%.100q): %v, %v, want %v", text, brief(l), f, want)
	}
	l, faults := gather(text)
	if !slices.Equal(l, append(slices.Clone(ahead), lines.Token{})) || !slices.Equal(faults, []api.Fault{want}) {
		t.Errorf("Each(%.100q): %v, %v, want %v, %v", text, brief(l), faults, brief(ahead), want)
	}
}

// gather: all tokens of Each, that of a fault too, and the faults that are some.
func gather(text string) ([]lines.Token, []api.Fault) {
	var l []lines.Token
	var faults []api.Fault
	for x, f := range lines.Each([]byte(text)) {
		l = append(l, x)
		if f != (api.Fault{}) {
			faults = append(faults, f)
		}
	}
	return l, faults
}

// brief: the first tokens alone, so that a fault can be read.
func brief(l []lines.Token) []lines.Token {
	l = slices.Clone(l[:min(6, len(l))])
	for i := range l {
		l[i].Text = l[i].Text[:min(60, len(l[i].Text))]
	}
	return l
}

// wantLine: a line alone has these tokens, with a line end behind it and without; and so it has behind others.
func wantLine(t *testing.T, line string, want ...lines.Token) {
	t.Helper()
	wantTokens(t, line, on(1, want...))
	wantTokens(t, line+"\n", on(1, want...))
	wantTokens(t, "\n# so\nx\n"+line+"\n\n", append(on(3, scalar(0, "x")), on(4, want...)...))
}

// wantWrong: a line has that error, wherever it stands.
func wantWrong(t *testing.T, line string, e api.Errno) {
	t.Helper()
	wantFault(t, line, nil, fault(0, 1, e))
	wantFault(t, line+"\nx: *\n", nil, fault(0, 1, e))
	wantFault(t, "\n---\nx\n"+line, slices.Concat(on(2, doc()), on(3, scalar(0, "x"))), fault(1, 4, e))
}

func TestKinds(t *testing.T) {
	if lines.Doc != 1 || lines.Item != 2 || lines.Key != 3 || lines.Scalar != 4 {
		t.Error("the kinds' numbers")
	}
}

// P8.1: the chapter's examples.
func TestExamples(t *testing.T) {
	wantLine(t, "kind: Service # a service", key(0, "kind"), scalar(6, "Service"))
	wantLine(t, "  - a1", item(2), scalar(4, "a1"))
	wantLine(t, "- service: web", item(0), key(2, "service"), scalar(11, "web"))
	wantLine(t, `host: "*.a.b"`, key(0, "host"), quoted(scalar(6, "*.a.b")))
	wantLine(t, "path: /a/* #x", key(0, "path"), scalar(6, "/a/*"))
	wantLine(t, "x: -5", key(0, "x"), scalar(3, "-5"))
	wantLine(t, "- - b", item(0), item(2), scalar(4, "b"))
	wantLine(t, "---", doc())
	wantLine(t, "--- # next", doc())
	wantLine(t, "---x", scalar(0, "---x"))
	wantWrong(t, " ---", api.ErrLine)
	wantWrong(t, "a: b: c", api.ErrLine)
	wantWrong(t, "a: *", api.ErrLine)
	wantWrong(t, `a: "x`, api.ErrQuote)
	wantLine(t, "a: 'it''s'", key(0, "a"), quoted(scalar(3, "it's")))
	wantLine(t, "a:b", scalar(0, "a:b"))
}

// P8.1: lines that say nothing.
func TestLinesThatSayNothing(t *testing.T) {
	for _, line := range []string{" ", "   ", "#", "#x", "# a: *", "  #", "   # \"x", "#\xff", "##", "# ---", "#: - '", strings.Repeat(" ", 5000)} {
		wantLine(t, line)
	}
	for _, text := range []string{"", "\n", "\n\n\n", "  \n#\n  # x\n\n "} {
		wantTokens(t, text, nil)
	}
}

// P8.1: what begins a document, and what nearly does.
func TestDocs(t *testing.T) {
	for _, line := range []string{"---", "--- ", "---     ", "--- #", "--- # x: *", "---   #x", "--- #---"} {
		wantLine(t, line, doc())
	}
	for _, line := range []string{"---x", "---#", "---# x", "--- x", "----", "--", "--- ---", "---'", `---"x"`, "---:x", "--- -"} {
		wantLine(t, line, scalar(0, line))
	}
	wantLine(t, "-- #", scalar(0, "--"))
	wantLine(t, "--- x # y", scalar(0, "--- x"))
	wantLine(t, "---: x", key(0, "---"), scalar(5, "x"))
	wantLine(t, "---:", key(0, "---"))
	wantLine(t, "- --- x", item(0), scalar(2, "--- x"))
	for _, line := range []string{" ---", "  --- ", " --- # x", "- ---", "- ---  ", "- --- # x", "a: ---", "a: --- #x", "--- x:", "--- a: b"} {
		wantWrong(t, line, api.ErrLine)
	}
	wantTokens(t, "---\n---\nx\n--- # y\n", slices.Concat(on(1, doc()), on(2, doc()), on(3, scalar(0, "x")), on(4, doc())))
}

// P8.1: items, and what stands behind them.
func TestItems(t *testing.T) {
	for _, line := range []string{"-", "- ", "-    ", "- #", "-   # x: *", "- #-"} {
		wantLine(t, line, item(0))
	}
	wantLine(t, "   -", item(3))
	wantLine(t, "-   x", item(0), scalar(4, "x"))
	wantLine(t, " -  -   - a: 'b' #c", item(1), item(4), item(8), key(10, "a"), quoted(scalar(13, "b")))
	wantLine(t, "- -", item(0), item(2))
	wantLine(t, "- - # x", item(0), item(2))
	wantLine(t, "- a:", item(0), key(2, "a"))
	wantLine(t, `- "a b"`, item(0), quoted(scalar(2, "a b")))
	wantLine(t, `- "a b": x`, item(0), quoted(key(2, "a b")), scalar(9, "x"))
	for _, line := range []string{"-a", "-#x", "--", "-5", "-a b", `-"x"`, "-'", "-:x", "-- -"} {
		wantLine(t, line, scalar(0, line))
	}
	wantWrong(t, "- : x", api.ErrLine)
	wantWrong(t, "- *", api.ErrLine)
	wantWrong(t, `- "x`, api.ErrQuote)
	wantWrong(t, "a: - b", api.ErrLine)
	wantWrong(t, "a: -", api.ErrLine)
	wantWrong(t, "a: -  ", api.ErrLine)
	wantWrong(t, "a: - # x", api.ErrLine)
	var many []lines.Token
	for i := range api.MaxText / 2 {
		many = append(many, item(2*i))
	}
	wantTokens(t, strings.Repeat("- ", api.MaxText/2), on(1, many...))
}

// P8.1: keys, and what stands behind them.
func TestKeys(t *testing.T) {
	for _, name := range []string{"a", "Z", "0", "_", "-", ".", "--", "---", "-a", "a-b_c.D9", "...", strings.Repeat("k", 63), strings.Repeat("K", 64)} {
		n := len(name)
		wantLine(t, name+":", key(0, name))
		wantLine(t, name+": ", key(0, name))
		wantLine(t, name+":   # x", key(0, name))
		wantLine(t, name+": x", key(0, name), scalar(n+2, "x"))
		wantLine(t, "  "+name+":   x y  ", key(2, name), scalar(n+6, "x y"))
		wantLine(t, "- "+name+": 'x'  ", item(0), key(2, name), quoted(scalar(n+4, "x")))
		wantLine(t, name+":x", scalar(0, name+":x"))
		wantLine(t, name+":#x", scalar(0, name+":#x"))
	}
	for _, name := range []string{strings.Repeat("k", 65), strings.Repeat("k", 66), strings.Repeat("k", 1000), "a b", "a ", "a/b", "a+", "\xe4", "a\xff", "a:b", "a'"} {
		wantWrong(t, name+":", api.ErrLine)
		wantWrong(t, name+": x", api.ErrLine)
		wantWrong(t, name+": # x", api.ErrLine)
		wantWrong(t, "- "+name+": x", api.ErrLine)
	}
	wantLine(t, strings.Repeat("k", 65)+":x", scalar(0, strings.Repeat("k", 65)+":x"))
	for _, line := range []string{": x", ":", ":x", "a::", "a:: x", "a: b:", "a: b: ", "a: b: # c", "a: b :", "a: : b", "a: :b"} {
		wantWrong(t, line, api.ErrLine)
	}
	wantLine(t, "a::b", scalar(0, "a::b"))
	wantLine(t, "a: b:c", key(0, "a"), scalar(3, "b:c"))
	wantLine(t, "a: b #c: d", key(0, "a"), scalar(3, "b"))
}

// P8.1: which bytes a key without quotes may have.
func TestBytesOfKeys(t *testing.T) {
	for i := 32; i < 256; i++ {
		c := string([]byte{byte(i)})
		name := "k" + c + "k"
		switch {
		case strings.Contains("abcdefghijklmnopqrstuvwxyzABCDEFGHIJKLMNOPQRSTUVWXYZ0123456789_-.", c):
			wantLine(t, name+": x", key(0, name), scalar(5, "x"))
		default:
			wantWrong(t, name+": x", api.ErrLine)
		}
	}
}

// P8.1: keys that are quoted.
func TestQuotedKeys(t *testing.T) {
	long := strings.Repeat("k ", 300)
	wantLine(t, `"": x`, quoted(key(0, "")), scalar(4, "x"))
	wantLine(t, `'':`, quoted(key(0, "")))
	wantLine(t, `"a: b": c`, quoted(key(0, "a: b")), scalar(8, "c"))
	wantLine(t, ` 'it''s':  # x`, quoted(key(1, "it's")))
	wantLine(t, `"`+long+`": x`, quoted(key(0, long)), scalar(604, "x"))
	wantLine(t, `"\"\\\n\t\x00\xff": "y" #`, quoted(key(0, "\"\\\n\t\x00\xff")), quoted(scalar(20, "y")))
	for _, line := range []string{`"a":b`, `"a" : b`, `"a"::`, `"a":#`, `"a" "b": c`, `"a"b: c`, `'a'b':`, `"a`, `"a: b`, `'a'':`, `"\q": b`, `a: "b": c`, `a: 'b':`, `"a": "b`} {
		wantWrong(t, line, api.ErrQuote)
	}
	wantWrong(t, `"a": *`, api.ErrLine)
	wantWrong(t, `"a": - b`, api.ErrLine)
}

// P8.1: plain scalars: their end, and what may not be in them.
func TestPlainScalars(t *testing.T) {
	for _, s := range []string{"x", "a b", "a  b", "a#b", "a#", "a##b", "x'y\"z", "a,b", "a[]{}", "a*&!|>%@?`", "a :b", "a:b:c", "~", "/a/*", "\\n", "(x)", "=", "<", "$x", "+1", ";", "^", "\x80", "\xff\xfe", "\u00e9", "-- x", "-:-", "...", "null"} {
		wantLine(t, s, scalar(0, s))
		wantLine(t, "  "+s+"   ", scalar(2, s))
		wantLine(t, s+" #", scalar(0, s))
		wantLine(t, s+"   # x: *", scalar(0, s))
		wantLine(t, "k: "+s+" #x #y", key(0, "k"), scalar(3, s))
		wantLine(t, "- "+s, item(0), scalar(2, s))
	}
	for _, s := range []string{"a :", "a b: c", "a b:", "a b:  ", "a b: #c", "x/: y", "a:b: c", "\xff:"} {
		wantWrong(t, s, api.ErrLine)
		wantWrong(t, "k: "+s, api.ErrLine)
		wantWrong(t, "- "+s, api.ErrLine)
	}
}

// P8.1: with which bytes a plain scalar may begin.
func TestFirstBytesOfPlainScalars(t *testing.T) {
	for i := 33; i < 256; i++ {
		c := string([]byte{byte(i)})
		for _, s := range []string{c, c + "x"} {
			switch {
			case i == 127, strings.Contains(",[]{}&*!|>%@?:`", c):
				for _, line := range []string{s, "- " + s, "k: " + s, "  " + s + " #"} {
					wantWrong(t, line, api.ErrLine)
				}
			case c == "\"", c == "'":
				wantWrong(t, "k: "+s, api.ErrQuote)
			case c == "#":
				wantLine(t, "k: "+s, key(0, "k"))
			case s == "-":
				wantLine(t, "- -", item(0), item(2))
			default:
				wantLine(t, s, scalar(0, s))
				wantLine(t, "k: "+s+" ", key(0, "k"), scalar(3, s))
			}
		}
	}
}

// P8.1: quoted scalars: what stands in them, and what behind them.
func TestQuotedScalars(t *testing.T) {
	for _, x := range []struct{ text, stands string }{
		{`""`, ""}, {`''`, ""}, {`" "`, " "}, {`"a"`, "a"}, {`'a'`, "a"}, {`''''`, "'"}, {`'''a'''`, "'a'"}, {`"'"`, "'"}, {`'"'`, `"`},
		{`'\'`, `\`}, {`'\n\x41\q'`, `\n\x41\q`}, {`"\\"`, `\`}, {`"\\\""`, `\"`}, {`"\n\t"`, "\n\t"}, {`"\x00\x7f\xff\x0a\x4f"`, "\x00\x7f\xff\nO"},
		{`"# a: b #c"`, "# a: b #c"}, {`' # - '`, " # - "}, {`"---"`, "---"}, {"\"\x80\xff\"", "\x80\xff"}, {"'\x80\xff'", "\x80\xff"}, {`"\\n"`, `\n`}, {`"x41"`, "x41"},
	} {
		n := len(x.text)
		for _, tail := range []string{"", " ", "    ", " #", "  # x \" '", " #\""} {
			wantLine(t, x.text+tail, quoted(scalar(0, x.stands)))
			wantLine(t, "   "+x.text+tail, quoted(scalar(3, x.stands)))
			wantLine(t, "k: "+x.text+tail, key(0, "k"), quoted(scalar(3, x.stands)))
			wantLine(t, "-  "+x.text+tail, item(0), quoted(scalar(3, x.stands)))
		}
		wantLine(t, x.text+": "+x.text, quoted(key(0, x.stands)), quoted(scalar(n+2, x.stands)))
		for _, tail := range []string{"#", "x", " x", " x #", "  :", "-", " - ", ",", "\\", "\xff", " \"", " '"} {
			wantWrong(t, x.text+tail, api.ErrQuote)
			wantWrong(t, "k: "+x.text+tail, api.ErrQuote)
			wantWrong(t, "- "+x.text+tail, api.ErrQuote)
		}
	}
}

// P8.1: quoted texts without an end, or with something in them that may not be there.
func TestWrongQuotedTexts(t *testing.T) {
	for _, s := range []string{
		`"`, `'`, `"a`, `'a`, `"\"`, `"\`, `"a\`, `"\x`, `"\x"`, `"\x4`, `"\x4"`, `"\x4" "`, `"\x41`, `"\\\"`, `'''`, `'a''`, `"'`, `'"`,
		`"\q"`, `"\N"`, `"\ "`, `"\'"`, `"\/"`, `"\0"`, `"\r"`, `"\u0041"`, `"\X41"`, `"\xAF"`, `"\xaF"`, `"\xFa"`, `"\xg0"`, `"\x0g"`, `"\x 1"`, `"\x1 "`, "\"\\\xff\"", "\"\\x\xff0\"",
		`"""`, `""a"`, `"a"b"`, `'a'b'`, `"a''`, `'a""`,
	} {
		for _, line := range []string{s, "  " + s, "k: " + s, "- " + s, "- - " + s, "k: " + s + " # x", s + ":"} {
			wantWrong(t, line, api.ErrQuote)
		}
	}
	for c := 32; c < 256; c++ {
		line := string([]byte{'"', '\\', byte(c), '"'})
		switch {
		case c == '"', c == '\\':
			wantLine(t, line, quoted(scalar(0, line[2:3])))
		case c == 'n':
			wantLine(t, line, quoted(scalar(0, "\n")))
		case c == 't':
			wantLine(t, line, quoted(scalar(0, "\t")))
		case c != 127:
			wantWrong(t, line, api.ErrQuote)
		}
	}
}

// P8.1: every two digits behind \x, and what is no digit.
func TestHexDigits(t *testing.T) {
	const digits = "0123456789abcdef"
	for i := range 256 {
		wantTokens(t, `"\x`+string([]byte{digits[i/16], digits[i%16]})+`"`, on(1, quoted(scalar(0, string([]byte{byte(i)})))))
		c := byte(i)
		if strings.IndexByte(digits, c) >= 0 || c < 32 || c == 127 {
			continue
		}
		wantFault(t, `"\x0`+string([]byte{c})+`"`, nil, fault(0, 1, api.ErrQuote))
		wantFault(t, `"\x`+string([]byte{c})+`0"`, nil, fault(0, 1, api.ErrQuote))
	}
}
