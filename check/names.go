package check

import "turnpike/api"

// loose: whether a resource names one that is not there, and the number, from 1 on, of the target or the rule that does; 0 is the resource itself.
func loose(r api.Resource, there map[key]int) (int, bool) {
	switch r.Kind {
	case api.Split:
		for i, t := range r.Targets {
			if _, is := there[named(t)]; !is {
				return i + 1, true
			}
		}
	case api.Route:
		for i, rule := range r.Rules {
			if _, is := there[key{api.Split, rule.Split}]; !is {
				return i + 1, true
			}
		}
	case api.Policy:
		_, is := there[key{api.Route, r.Route}]
		return 0, !is
	}
	return 0, false
}

// named: a target's Split counts only where it has no Service.
func named(t api.Target) key {
	if t.Service != "" {
		return key{api.Service, t.Service}
	}
	return key{api.Split, t.Split}
}

// endless is the depth of a split that has none, and of one whose depth is being looked for.
const endless = 0

// depths of the splits of a configuration in which nothing is loose.
type depths struct {
	conf   []api.Resource
	places map[key]int
	found  map[key]int
}

// of: a split that comes upon itself, or upon one that does, finds it endless, and stays so.
func (d depths) of(split key) int {
	if depth, is := d.found[split]; is {
		return depth
	}
	d.found[split] = endless
	deepest := 0
	for _, t := range d.conf[d.places[split]].Targets {
		k := named(t)
		if k.kind != api.Split {
			continue
		}
		depth := d.of(k)
		if depth == endless {
			return endless
		}
		deepest = max(deepest, depth)
	}
	d.found[split] = deepest + 1
	return deepest + 1
}
