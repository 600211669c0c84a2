package check

import (
	"cmp"
	"slices"
	"strings"

	"turnpike/api"
)

// key is what a configuration has once.
type key struct {
	kind int
	name string
}

func keyOf(r api.Resource) key { return key{r.Kind, r.Name} }

func (k key) compare(other key) int {
	return cmp.Or(cmp.Compare(k.kind, other.kind), cmp.Compare(k.name, other.name))
}

func isKind(kind int) bool { return kind >= api.Service && kind <= api.Policy }

// astray: the place of the first resource that is out of order; how many there are, if none is.
func astray(conf []api.Resource) int {
	for i, r := range conf {
		if !isKind(r.Kind) || r.Delete || i > 0 && keyOf(conf[i-1]).compare(keyOf(r)) >= 0 {
			return i
		}
	}
	return len(conf)
}

// firsts: the place of the first resource of each key.
func firsts(list []api.Resource) map[key]int {
	places := make(map[key]int, len(list))
	for i, r := range list {
		if _, is := places[keyOf(r)]; !is {
			places[keyOf(r)] = i
		}
	}
	return places
}

// sorted: copies of resources of unlike keys, by these.
func sorted(list []api.Resource) []api.Resource {
	places := make([]int, len(list))
	for i := range places {
		places[i] = i
	}
	slices.SortFunc(places, func(i, j int) int { return keyOf(list[i]).compare(keyOf(list[j])) })
	out := make([]api.Resource, 0, len(list))
	for _, i := range places {
		out = append(out, copyOf(list[i]))
	}
	return out
}

func copyOf(r api.Resource) api.Resource {
	return api.Resource{
		Kind:      r.Kind,
		Name:      strings.Clone(r.Name),
		Endpoints: copies(r.Endpoints, strings.Clone),
		Targets:   copies(r.Targets, copyOfTarget),
		Host:      strings.Clone(r.Host),
		Rules:     copies(r.Rules, copyOfRule),
		Route:     strings.Clone(r.Route),
		Delete:    r.Delete,
	}
}

func copyOfTarget(t api.Target) api.Target {
	return api.Target{Service: strings.Clone(t.Service), Split: strings.Clone(t.Split), Weight: t.Weight}
}

func copyOfRule(r api.Rule) api.Rule {
	return api.Rule{Path: strings.Clone(r.Path), Method: strings.Clone(r.Method), Split: strings.Clone(r.Split), Allow: r.Allow}
}

func copies[T any](list []T, copied func(T) T) []T {
	out := make([]T, 0, len(list))
	for _, x := range list {
		out = append(out, copied(x))
	}
	return out
}

func isSameTarget(a, b api.Target) bool {
	return a.Service == b.Service && a.Split == b.Split && isSameWeight(a.Weight, b.Weight)
}

// isSameWeight: what is no number is alone in not being equal to itself.
func isSameWeight(a, b float64) bool { return a == b || a != a && b != b }
