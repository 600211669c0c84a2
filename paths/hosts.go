package paths

import (
	"cmp"
	"strings"
)

// sort is which sort of host pattern a text is. The sorts stand as their patterns do in the order.
type sort int

const (
	one sort = iota
	below
	all
	none
)

// pattern is a text as a host pattern: its sort, and the host in it, folded. Of what is none, text is all of it as it is, as the order asks.
type pattern struct {
	sort sort
	text string
}

func patternOf(s string) pattern {
	p := pattern{sort: one, text: s}
	switch {
	case s == every:
		return pattern{sort: all}
	case strings.HasPrefix(s, anyBelow):
		p = pattern{sort: below, text: s[len(anyBelow):]}
		fallthrough // what stands behind must be a host, as what stands alone
	default:
		folded, is := Fold(p.text)
		if !is {
			return pattern{sort: none, text: s}
		}
		p.text = folded
	}
	return p
}

// takes: whether p takes a host, which is folded.
func (p pattern) takes(h string) bool {
	switch p.sort {
	case one:
		return h == p.text
	case below:
		return isBelow(h, p.text)
	}
	return p.sort == all
}

func (p pattern) covers(other pattern) bool {
	if p.sort == none || other.sort == none {
		return false
	}
	return p.sort == all || p == other || p.sort == below && isBelow(other.text, p.text)
}

func (p pattern) compare(other pattern) int {
	longer := 0
	if p.sort == below {
		longer = cmp.Compare(len(other.text), len(p.text))
	}
	return cmp.Or(cmp.Compare(p.sort, other.sort), longer, strings.Compare(p.text, other.text))
}

func isBelow(h, above string) bool { return strings.HasSuffix(h, "."+above) }
