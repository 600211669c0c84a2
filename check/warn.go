package check

import (
	"turnpike/api"
	"turnpike/paths"
)

// every is the method of rules for all methods.
const every = "*"

func warnings(conf []api.Resource) []Warning {
	var out []Warning
	for i, r := range conf {
		if r.Kind != api.Route && r.Kind != api.Policy {
			continue
		}
		for at := range r.Rules {
			if by := coverer(r.Rules, at); by < at {
				out = append(out, Warning{Doc: i, Rule: at, By: by})
			}
		}
	}
	return out
}

// coverer: the place of the first rule that covers that one; its own, if none ahead of it does.
func coverer(rules []api.Rule, at int) int {
	for by := range at {
		if covers(rules[by], rules[at]) {
			return by
		}
	}
	return at
}

func covers(a, b api.Rule) bool {
	return (a.Method == b.Method || a.Method == every) && paths.CoversPath(a.Path, b.Path)
}
