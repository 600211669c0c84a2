package lines_test

import (
	"math/rand"
	"regexp"
	"slices"
	"strconv"
	"strings"
	"testing"

	"turnpike/api"
	"turnpike/lines"
)

const (
	doubleForm = `"(?:[^"\\]|\\["\\nt]|\\x[0-9a-f][0-9a-f])*"`
	singleForm = `'(?:[^']|'')*'`
	quotedForm = `(` + doubleForm + `|` + singleForm + `)`
)

// The chapter's forms as expressions; what is no UTF-8 matches what any byte matches.
var (
	strayForm   = regexp.MustCompile(`[\x00-\x1f\x7f]`)
	docForm     = regexp.MustCompile(`^---( *| +#.*)$`)
	nothingForm = regexp.MustCompile(`^(#.*)?$`)
	itemForm    = regexp.MustCompile(`^-( +|$)`)
	nameForm    = regexp.MustCompile(`^([A-Za-z0-9_.-]{1,64}):( +|$)`)
	markedForm  = regexp.MustCompile(`^` + quotedForm + `:( +|$)`)
	markForm    = regexp.MustCompile(`^["']`)
	aloneForm   = regexp.MustCompile(`^` + quotedForm + `(?: *$| +#)`)
	plainForm   = regexp.MustCompile(`^(.*?) *( #.*)?$`)
	wrongForm   = regexp.MustCompile("^[\"'#,\\[\\]{}&*!|>%@?:`]|^- |^-$|^---$|: |:$")
	escapeForm  = regexp.MustCompile(`\\(["\\nt]|x..)`)
)

// standsFor: what a quoted text stands for.
func standsFor(s string) string {
	inner := s[1 : len(s)-1]
	if s[0] == '\'' {
		return strings.ReplaceAll(inner, "''", "'")
	}
	return escapeForm.ReplaceAllStringFunc(inner, func(m string) string {
		switch m[1] {
		case 'n':
			return "\n"
		case 't':
			return "\t"
		case 'x':
			n, _ := strconv.ParseUint(m[2:], 16, 8)
			return string([]byte{byte(n)})
		}
		return m[1:]
	})
}

// modelLine: the tokens of a line as the chapter words it.
func modelLine(line string) ([]lines.Token, api.Errno) {
	switch {
	case strings.Contains(line, "\t"):
		return nil, api.ErrTab
	case strayForm.MatchString(line):
		return nil, api.ErrLine
	case docForm.MatchString(line):
		return []lines.Token{doc()}, api.OK
	}
	var l []lines.Token
	rest := strings.TrimLeft(line, " ")
	here := func() int { return len(line) - len(rest) }
	for {
		m := itemForm.FindString(rest)
		if m == "" {
			break
		}
		l = append(l, item(here()))
		rest = rest[len(m):]
	}
	if m := nameForm.FindStringSubmatch(rest); m != nil {
		l = append(l, key(here(), m[1]))
		rest = rest[len(m[0]):]
	} else if m := markedForm.FindStringSubmatch(rest); m != nil {
		l = append(l, quoted(key(here(), standsFor(m[1]))))
		rest = rest[len(m[0]):]
	}
	if nothingForm.MatchString(rest) {
		return l, api.OK
	}
	if markForm.MatchString(rest) {
		m := aloneForm.FindStringSubmatch(rest)
		if m == nil {
			return nil, api.ErrQuote
		}
		return append(l, quoted(scalar(here(), standsFor(m[1])))), api.OK
	}
	s := plainForm.FindStringSubmatch(rest)[1]
	if wrongForm.MatchString(s) {
		return nil, api.ErrLine
	}
	return append(l, scalar(here(), s)), api.OK
}

// model: what Each tells of a text: the tokens of the lines ahead of a fault, and that.
func model(text string) ([]lines.Token, api.Fault) {
	if len(text) > 65536 {
		return nil, api.Fault{Err: api.ErrLong}
	}
	all := strings.Split(text, "\n")
	if all[len(all)-1] == "" {
		all = all[:len(all)-1]
	}
	var l []lines.Token
	docs := 0
	for i, line := range all {
		more, e := modelLine(line)
		if e != api.OK {
			return l, api.Fault{Doc: docs, Line: i + 1, Err: e}
		}
		l = append(l, on(i+1, more...)...)
		if len(more) > 0 && more[0].Kind == lines.Doc {
			docs++
		}
	}
	return l, api.Fault{}
}

func wantModel(t *testing.T, text string) {
	t.Helper()
	l, f := model(text)
	if f == (api.Fault{}) {
		wantTokens(t, text, l)
	} else {
		wantFault(t, text, l, f)
	}
}

// wantPlainByModel: P8.3's words: read alone on a line, a plain scalar whose Text it is.
func wantPlainByModel(t *testing.T, s string) {
	t.Helper()
	l, e := modelLine(s)
	wantPlain(t, s, e == api.OK && slices.Equal(l, []lines.Token{scalar(0, s)}))
}

// Every short line of the bytes that mean something.
func TestEveryShortLine(t *testing.T) {
	const bytes = "a -#:\"'\\"
	last := []string{""}
	for range 5 {
		var next []string
		for _, s := range last {
			for _, c := range bytes {
				next = append(next, s+string(c))
			}
		}
		for _, s := range next {
			wantModel(t, s)
			wantPlainByModel(t, s)
			if t.Failed() {
				t.FailNow()
			}
		}
		last = next
	}
}

// pieces: what lines are made of, the rarer ones last.
func pieces() []string {
	return []string{
		" ", " ", " ", "  ", "-", "- ", "- ", ": ", ": ", ":", "a", "b", "key", "x9._-", "#", " #", " # ", "\"", "\"", "'", "'", "''", "\\", "\\\\", "\\\"", "\\n", "\\t", "\\x41", "\\x0f", "n", "x", "4", "f",
		"---", "--- ", "\"a\"", "'b'", "\"\": ", "'c d': ", "k: ", "\n", "\n", "\n", "\n---\n", "\n--- # x\n", "/a/*", "*", "&", "[", "]", "{", "}", ",", "!", "|", ">", "%", "@", "?", "`", "~", "\x80", "\xff", "\u00e9", "A", "Z", "0",
		strings.Repeat("k", 63), strings.Repeat("K", 64), strings.Repeat("0", 65),
	}
}

func anyText(r *rand.Rand, n int) string {
	l := pieces()
	var b strings.Builder
	for range r.Intn(n) {
		b.WriteString(l[r.Intn(len(l))])
	}
	if r.Intn(8) == 0 {
		b.WriteString([]string{"\t", "\x00", "\x1f", "\x7f", "\r"}[r.Intn(5)])
	}
	for range r.Intn(n) / 2 {
		b.WriteString(l[r.Intn(len(l))])
	}
	return b.String()
}

// rightText: a text all of whose lines are right by the model, so that long ones without a fault come up too.
func rightText(r *rand.Rand, n int) string {
	var b strings.Builder
	for range r.Intn(n) {
		line := anyText(r, 8)
		if _, f := model(line + "\n"); f == (api.Fault{}) {
			b.WriteString(line + "\n")
		}
	}
	return b.String()
}

// Any texts.
func TestAnyTexts(t *testing.T) {
	r := rand.New(rand.NewSource(2))
	right, wrong := 0, 0
	for range 15000 {
		text := anyText(r, 12)
		if r.Intn(4) == 0 {
			text = rightText(r, 20) + text
		}
		wantModel(t, text)
		wantPlainByModel(t, text)
		if t.Failed() {
			t.FailNow()
		}
		if _, f := model(text); f.Err == api.OK {
			right++
		} else {
			wrong++
		}
	}
	if right < 2000 || wrong < 2000 {
		t.Errorf("%d right, %d wrong", right, wrong)
	}
}

// P8.5: lines one behind the other have their own tokens, each with its own number.
func TestLinesAlone(t *testing.T) {
	r := rand.New(rand.NewSource(3))
	whole := 0
	for range 3000 {
		a, b := rightText(r, 12), rightText(r, 12)
		if r.Intn(3) == 0 {
			b += anyText(r, 5)
		}
		ahead, f := lines.Scan([]byte(a))
		if f != (api.Fault{}) {
			t.Fatalf("%q: %v", a, f)
		}
		more, f := lines.Scan([]byte(b))
		n := strings.Count(a, "\n")
		if f != (api.Fault{}) {
			f.Line += n
			for _, x := range ahead {
				if x.Kind == lines.Doc {
					f.Doc++
				}
			}
			if l, g := lines.Scan([]byte(a + b)); g != f || len(l) != 0 {
				t.Fatalf("%q: %v, want %v", a+b, g, f)
			}
			continue
		}
		for i := range more {
			more[i].Line += n
		}
		wantTokens(t, a+b, append(ahead, more...))
		whole++
	}
	if whole < 1000 {
		t.Errorf("%d whole", whole)
	}
}
