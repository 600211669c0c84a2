package check

import "turnpike/api"

// faultOf: the first fault of a configuration. Each look goes through all of it before the next one begins.
func faultOf(conf []api.Resource) api.Fault {
	if at := astray(conf); at < len(conf) {
		return api.Fault{Doc: at, Err: api.ErrArg}
	}
	if len(conf) > api.MaxResources {
		return api.Fault{Err: api.ErrCount}
	}
	for _, look := range []func([]api.Resource) api.Fault{dangling, hostTwice, misweighed, ringed} {
		if fault := look(conf); fault.Err != api.OK {
			return fault
		}
	}
	return api.Fault{}
}

func dangling(conf []api.Resource) api.Fault {
	there := firsts(conf)
	for i, r := range conf {
		if line, is := loose(r, there); is {
			return api.Fault{Doc: i, Line: line, Err: api.ErrDangling}
		}
	}
	return api.Fault{}
}

func hostTwice(conf []api.Resource) api.Fault {
	hosts := make(map[string]int)
	for i, r := range conf {
		if r.Kind != api.Route {
			continue
		}
		if _, is := hosts[r.Host]; is {
			return api.Fault{Doc: i, Err: api.ErrHost}
		}
		hosts[r.Host] = i
	}
	return api.Fault{}
}

func misweighed(conf []api.Resource) api.Fault {
	for i, r := range conf {
		if r.Kind == api.Split && !isWeighed(r.Targets) {
			return api.Fault{Doc: i, Err: api.ErrWeights}
		}
	}
	return api.Fault{}
}

// isWeighed: what is no number is within no bounds, so that it is told by them.
func isWeighed(targets []api.Target) bool {
	const off = 1.0 / (1 << 20)
	sum := 0.0
	for _, t := range targets {
		if !(t.Weight >= 0 && t.Weight <= 100) {
			return false
		}
		sum += t.Weight
	}
	return sum >= 100-off && sum <= 100+off
}

func ringed(conf []api.Resource) api.Fault {
	d := depths{conf: conf, places: firsts(conf), found: make(map[key]int)}
	for i, r := range conf {
		if r.Kind != api.Split {
			continue
		}
		if depth := d.of(keyOf(r)); depth == endless || depth > api.MaxDepth {
			return api.Fault{Doc: i, Err: api.ErrRing}
		}
	}
	return api.Fault{}
}
