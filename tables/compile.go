package tables

import (
	"cmp"
	"slices"
	"strings"

	"turnpike/api"
	"turnpike/paths"
)

func hosts(conf []api.Resource) []api.Host {
	shares := reckoner(conf)
	var list []api.Host
	for _, r := range conf {
		if r.Kind == api.Route {
			list = append(list, api.Host{
				Host:    strings.Clone(r.Host),
				Route:   strings.Clone(r.Name),
				Entries: entries(r.Rules, shares),
				Permits: permits(conf, r.Name),
			})
		}
	}
	slices.SortFunc(list, func(a, b api.Host) int {
		return cmp.Or(paths.Order(a.Host, b.Host), cmp.Compare(a.Route, b.Route))
	})
	return list
}

func entries(rules []api.Rule, shares func(split string) []api.Share) []api.Entry {
	return copies(rules, func(r api.Rule) api.Entry {
		return api.Entry{Path: strings.Clone(r.Path), Method: strings.Clone(r.Method), Shares: Steps(shares(r.Split))}
	})
}

// permits: a configuration has its policies by name already.
func permits(conf []api.Resource, route string) []api.Permit {
	var list []api.Permit
	for _, r := range conf {
		if r.Kind == api.Policy && r.Route == route {
			list = append(list, copies(r.Rules, permitOf)...)
		}
	}
	return list
}

func permitOf(r api.Rule) api.Permit {
	return api.Permit{Path: strings.Clone(r.Path), Method: strings.Clone(r.Method), Allow: r.Allow}
}

// services: a configuration has them by name already.
func services(conf []api.Resource) []string {
	var names []string
	for _, r := range conf {
		if r.Kind == api.Service {
			names = append(names, strings.Clone(r.Name))
		}
	}
	return names
}
