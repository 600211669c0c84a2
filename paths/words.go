package paths

import "turnpike/api"

// every is the pattern of each sort that takes all; anyBelow stands ahead of a host in a pattern.
const (
	every    = "*"
	anyBelow = "*."
)

func isHost(s string) bool { return len(s) <= api.MaxName && isMadeOf(s, inHost) }

func isPath(s string) bool { return len(s) <= api.MaxPath && isMadeOf(s, inPath) && s[0] == '/' }

func isMethod(s string) bool { return len(s) <= api.MaxName && isMadeOf(s, isGreat) }

// isMadeOf: whether s has bytes, all of them such.
func isMadeOf(s string, such func(byte) bool) bool {
	for i := range len(s) {
		if !such(s[i]) {
			return false
		}
	}
	return s != ""
}

func inHost(c byte) bool {
	return isGreat(c) || c >= 'a' && c <= 'z' || c >= '0' && c <= '9' || c == '-' || c == '.'
}

func inPath(c byte) bool { return c >= 33 && c <= 126 }

func isGreat(c byte) bool { return c >= 'A' && c <= 'Z' }
