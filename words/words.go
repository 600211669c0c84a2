// Package words tells which texts are what shared/DOC.md's section Words says, for all layers that ask that.
package words

import "turnpike/api"

// IsName: whether s is a name.
func IsName(s string) bool {
	if s == "" || len(s) > api.MaxName {
		return false
	}
	for i := range len(s) {
		if !InName(s[i]) {
			return false
		}
	}
	return true
}

// InName: whether a name may have that byte.
func InName(c byte) bool {
	return c >= 'a' && c <= 'z' || c >= 'A' && c <= 'Z' || c >= '0' && c <= '9' || c == '_' || c == '-' || c == '.'
}
