package lines

import "strings"

// hexDigits: at each one's value.
const hexDigits = "0123456789abcdef"

// Quote: P8.3.
func Quote(s string) string {
	b := make([]byte, 0, len(s)+2)
	b = append(b, '"')
	for i := range len(s) {
		switch c := s[i]; {
		case c == '"', c == '\\':
			b = append(b, '\\', c)
		case c == '\n':
			b = append(b, '\\', 'n')
		case c == '\t':
			b = append(b, '\\', 't')
		case unseen(c):
			b = append(b, '\\', 'x', hexDigits[c>>4], hexDigits[c&15])
		default:
			b = append(b, c)
		}
	}
	return string(append(b, '"'))
}

func isQuote(c byte) bool { return c == '"' || c == '\'' }

// unquote: what the quoted text stands for with which s begins, and how many bytes of s that is; false, if it has no end, or something in it that may not be there.
func unquote(s string) (string, int, bool) {
	if s[0] == '"' {
		return unquoteDouble(s)
	}
	return unquoteSingle(s)
}

func unquoteDouble(s string) (string, int, bool) {
	var text []byte
	for at := 1; at < len(s); {
		c, size := s[at], 1
		switch c {
		case '"':
			return string(text), at + 1, true
		case '\\':
			c, size = escaped(s[at:])
		}
		if size == 0 {
			return "", 0, false
		}
		text = append(text, c)
		at += size
	}
	return "", 0, false
}

func unquoteSingle(s string) (string, int, bool) {
	var text []byte
	for at := 1; at < len(s); at++ {
		if s[at] == '\'' {
			if !strings.HasPrefix(s[at:], "''") {
				return string(text), at + 1, true
			}
			at++
		}
		text = append(text, s[at])
	}
	return "", 0, false
}

// escaped: what the first bytes of s, a backslash the first, stand for, and how many they are: none, if they stand for nothing.
func escaped(s string) (byte, int) {
	if len(s) < 2 {
		return 0, 0
	}
	switch s[1] {
	case '"', '\\':
		return s[1], 2
	case 'n':
		return '\n', 2
	case 't':
		return '\t', 2
	case 'x':
		if len(s) < 4 {
			return 0, 0
		}
		high, low := strings.IndexByte(hexDigits, s[2]), strings.IndexByte(hexDigits, s[3])
		if high >= 0 && low >= 0 {
			return byte(high<<4 | low), 4
		}
	}
	return 0, 0
}
