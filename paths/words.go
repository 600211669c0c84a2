package paths

import (
	"strings"

	"turnpike/api"
)

// every is the pattern of each sort that takes all; anyBelow stands ahead of a host in a pattern.
const (
	every    = "*"
	anyBelow = "*."
)

func isHost(s string) bool { return len(s) <= api.MaxName && isMadeOf(s, inHost) }

func isPath(s string) bool { return len(s) <= api.MaxPath && isMadeOf(s, inPath) && s[0] == '/' }

func isMethod(s string) bool { return len(s) <= api.MaxName && isMadeOf(s, isGreat) }

// isMadeOf: whether s has bytes, all of them such.
func isMadeOf(s string, such func(byte) bool) bool {
	for i := range len(s) {
		if !such(s[i]) {
			return false
		}
	}
	return s != ""
}

// isBegun: whether the pattern of paths ends with a '*', and s begins with what stands ahead of it.
func isBegun(pattern, s string) bool {
	begin, open := strings.CutSuffix(pattern, every)
	return open && strings.HasPrefix(s, begin)
}

func inHost(c byte) bool {
	return isGreat(c) || c >= 'a' && c <= 'z' || c >= '0' && c <= '9' || c == '-' || c == '.'
}

func inPath(c byte) bool { return c >= 33 && c <= 126 }

func isGreat(c byte) bool { return c >= 'A' && c <= 'Z' }

func small(c byte) byte {
	if isGreat(c) {
		return c - 'A' + 'a'
	}
	return c
}
