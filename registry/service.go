package registry

import (
	"slices"
	"strings"

	"turnpike/api"
)

// service is one with all its endpoints, whatever their health.
type service struct {
	name      string
	endpoints []string
}

// list: the services among resources, by name, or ErrArg.
func list(resources []api.Resource) ([]service, api.Errno) {
	var services []service
	for _, r := range resources {
		if r.Kind == api.Service {
			services = append(services, service{strings.Clone(r.Name), unlike(r.Endpoints)})
		}
	}
	slices.SortFunc(services, byName)
	for i := 1; i < len(services); i++ {
		if services[i].name == services[i-1].name {
			return nil, api.ErrArg
		}
	}
	return services, api.OK
}

func byName(a, b service) int { return strings.Compare(a.name, b.name) }

// unlike: new texts, each at its first place alone.
func unlike(l []string) []string {
	var first []string
	seen := make(map[string]struct{}, len(l))
	for _, s := range l {
		if _, is := seen[s]; !is {
			seen[s] = struct{}{}
			first = append(first, strings.Clone(s))
		}
	}
	return first
}

// those: the service with those of its endpoints that are healthy.
func (s service) those(healthy func(endpoint string) bool) api.Healthy {
	h := api.Healthy{Service: s.name}
	for _, endpoint := range s.endpoints {
		if healthy(endpoint) {
			h.Endpoints = append(h.Endpoints, endpoint)
		}
	}
	return h
}
