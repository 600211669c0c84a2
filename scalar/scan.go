package scalar

import "strconv"

// number is what the text of a number is made of; an int has no rest.
type number struct {
	minus       bool
	whole, rest string
	power       int
}

// scan: what a text is made of that has the form of an int or a real, however great it is; else false.
func scan(text string) (number, bool) {
	var n number
	at, from := 0, 0
	if isAt(text, at, '-') {
		n.minus = true
		at++
	}
	from = at
	if isAt(text, at, '0') {
		at++
		goto wholeEnds
	}
whole:
	if isDigitAt(text, at) {
		at++
		goto whole
	}
wholeEnds:
	n.whole = text[from:at]
	if at == len(text) {
		goto intEnds
	}
	if n.whole == "" || text[at] != '.' {
		goto wrong
	}
	at++
	from = at
rest:
	if isDigitAt(text, at) {
		at++
		goto rest
	}
	n.rest = text[from:at]
	if n.rest == "" {
		goto wrong
	}
	if at == len(text) {
		return n, true
	}
	if text[at] != 'e' || !isPower(text[at+1:]) {
		goto wrong
	}
	n.power, _ = strconv.Atoi(text[at+1:])
	return n, true
intEnds:
	if n.whole != "" && !(n.minus && n.whole == "0") {
		return n, true
	}
wrong:
	return number{}, false
}

// isPower: whether a text is one or two digits, perhaps with - ahead.
func isPower(text string) bool {
	at, end := 0, len(text)
	if isAt(text, 0, '-') {
		at++
	}
	if end-at != 1 && end-at != 2 {
		return false
	}
	return isDigitAt(text, at) && isDigitAt(text, end-1)
}

func isAt(text string, at int, c byte) bool { return at < len(text) && text[at] == c }

func isDigitAt(text string, at int) bool {
	return at < len(text) && text[at] >= '0' && text[at] <= '9'
}
