package registry

import (
	"slices"
	"strings"

	"turnpike/api"
)

// view is who may be picked, and how often that became another one. Nobody writes into its lists: a further view has lists of its own.
type view struct {
	healthy []api.Healthy // by the services' names
	epoch   int
}

// become: the epoch rises with another view alone, so that views of one epoch are the same.
func (v *view) become(now []api.Healthy) {
	if slices.EqualFunc(v.healthy, now, isSame) {
		return
	}
	v.healthy = now
	v.epoch++
}

func isSame(a, b api.Healthy) bool {
	return a.Service == b.Service && slices.Equal(a.Endpoints, b.Endpoints)
}

// told: the view in new memory.
func (v *view) told() []api.Healthy {
	l := make([]api.Healthy, 0, len(v.healthy))
	for _, h := range v.healthy {
		l = append(l, api.Healthy{Service: strings.Clone(h.Service), Endpoints: copies(h.Endpoints)})
	}
	return l
}

func copies(l []string) []string {
	texts := make([]string, 0, len(l))
	for _, s := range l {
		texts = append(texts, strings.Clone(s))
	}
	return texts
}
