package lines

import (
	"strings"

	"turnpike/api"
	"turnpike/words"
)

// noPlain: what a plain scalar does not begin with (a blank, as those ahead of it are no part of it).
const noPlain = " \"'#,[]{}&*!|>%@?:`"

// reader goes through a line: what stands from at on is not read yet.
type reader struct {
	line   string
	number int
	at     int
	tokens []Token
}

// read: the tokens of a line, or its first error and none of them.
func read(line string, number int) ([]Token, api.Errno) {
	r := reader{line: line, number: number}
	text, size, is := "", 0, false
	e := stray(line)
	if e != api.OK {
		goto wrong
	}
	if beginsDoc(line) {
		r.take(Doc, len(line), "")
		goto end
	}
	r.skipBlanks()
content:
	if r.over() {
		goto end
	}
	if isItem(r.rest()) {
		r.take(Item, 1, "")
		goto content
	}
	text, size, is = keyOf(r.rest())
	if !is {
		goto scalar
	}
	r.take(Key, size, text)
	if r.over() {
		goto end
	}
scalar:
	if isQuote(r.rest()[0]) {
		goto quoted
	}
	text = plain(r.rest())
	if text == "" {
		e = api.ErrLine
		goto wrong
	}
	r.take(Scalar, len(text), strings.Clone(text))
	goto end
quoted:
	text, size, is = unquote(r.rest())
	if !is || !saysNothing(r.rest()[size:]) {
		e = api.ErrQuote
		goto wrong
	}
	r.take(Scalar, size, text)
end:
	return r.tokens, api.OK
wrong:
	return nil, e
}

func (r *reader) rest() string { return r.line[r.at:] }

// over: whether nothing is left, or a comment. It is asked behind blanks, or where the line's content begins.
func (r *reader) over() bool { return r.rest() == "" || r.rest()[0] == '#' }

// take adds the token that begins here and has so many bytes, and goes behind it and the blanks that follow.
func (r *reader) take(kind, size int, text string) {
	r.tokens = append(r.tokens, Token{Kind: kind, Line: r.number, Col: r.at, Text: text, Quoted: isQuote(r.line[r.at])})
	r.at += size
	r.skipBlanks()
}

func (r *reader) skipBlanks() { r.at = len(r.line) - len(pastBlanks(r.rest())) }

func pastBlanks(s string) string { return strings.TrimLeft(s, " ") }

// stray: the error of a byte that no line may have, wherever in it that is.
func stray(line string) api.Errno {
	e := api.OK
	for i := range len(line) {
		switch c := line[i]; {
		case c == '\t':
			return api.ErrTab
		case unseen(c):
			e = api.ErrLine
		}
	}
	return e
}

// unseen: whether a byte stands for itself nowhere.
func unseen(c byte) bool { return c < ' ' || c == 127 }

func beginsDoc(line string) bool {
	rest, is := strings.CutPrefix(line, "---")
	return is && saysNothing(rest)
}

// saysNothing: whether what stands behind a token is blanks alone, or a comment with a blank ahead of it, or nothing.
func saysNothing(rest string) bool {
	past := pastBlanks(rest)
	return past == "" || past[0] == '#' && len(past) < len(rest)
}

func isItem(s string) bool { return s == "-" || strings.HasPrefix(s, "- ") }

// keyOf: the text of the key that s begins with, and how many bytes it has, its colon too; false, if s begins with none.
func keyOf(s string) (text string, size int, is bool) {
	if isQuote(s[0]) {
		text, size, is = unquote(s)
	} else {
		size = nameSize(s)
		text, is = strings.Clone(s[:size]), size > 0
	}
	if is && (s[size:] == ":" || strings.HasPrefix(s[size:], ": ")) {
		return text, size + 1, true
	}
	return "", 0, false
}

// nameSize: how many of the first bytes of s may be a name's. (Of a longer name it is no more than MaxName: no colon stands there.)
func nameSize(s string) int {
	n := 0
	for n < min(len(s), api.MaxName) && words.InName(s[n]) {
		n++
	}
	return n
}

// plain: the plain scalar that stands from the beginning of s on, up to a line's end; no text, if there is none.
func plain(s string) string {
	s, _, _ = strings.Cut(s, " #")
	s = strings.TrimRight(s, " ")
	switch {
	case s == "", s == "---", isItem(s), strings.IndexByte(noPlain, s[0]) >= 0:
		return ""
	case strings.Contains(s, ": "), strings.HasSuffix(s, ":"):
		return ""
	}
	return s
}
