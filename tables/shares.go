package tables

import "turnpike/api"

// reckoner: what tells the shares of a split of a configuration without a fault: no split in it comes upon itself, so that each call ends. What it tells is kept for later calls: it may be read, not changed.
func reckoner(conf []api.Resource) func(split string) []api.Share {
	splits := targets(conf)
	known := make(map[string][]api.Share)
	var shares func(split string) []api.Share
	shares = func(split string) []api.Share {
		if l, is := known[split]; is {
			return l
		}
		sums := parts{places: make(map[string]int)}
		for _, t := range splits[split] {
			w := t.Weight / 100
			if t.Service != "" {
				sums.add(t.Service, w)
				continue
			}
			for _, s := range shares(t.Split) {
				// The conversion keeps the product from being fused with the sum.
				sums.add(s.Service, float64(w*s.Upto))
			}
		}
		known[split] = sums.list
		return sums.list
	}
	return shares
}

// targets: those of each split, by its name.
func targets(conf []api.Resource) map[string][]api.Target {
	splits := make(map[string][]api.Target)
	for _, r := range conf {
		if r.Kind == api.Split {
			splits[r.Name] = r.Targets
		}
	}
	return splits
}

// parts are services with a real each, and the places where they stand.
type parts struct {
	list   []api.Share
	places map[string]int
}

// add: a new service begins with 0, so that a part of -0 makes +0.
func (p *parts) add(service string, x float64) {
	at, is := p.places[service]
	if !is {
		at = len(p.list)
		p.places[service] = at
		p.list = append(p.list, api.Share{Service: service})
	}
	p.list[at].Upto += x
}
