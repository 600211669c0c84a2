package check

import "turnpike/api"

// wrong: the first document that is wrong, there being a configuration with these keys.
func wrong(docs []api.Resource, there map[key]int) (int, api.Errno) {
	said := firsts(docs)
	for i, d := range docs {
		k := keyOf(d)
		_, is := there[k]
		switch {
		case !isKind(d.Kind):
			return i, api.ErrArg
		case said[k] != i:
			return i, api.ErrTwice
		case d.Delete && !is:
			return i, api.ErrDelete
		}
	}
	return 0, api.OK
}

// merged: the configuration's resources that no document speaks of, and the documents that delete none.
func merged(conf, docs []api.Resource) []api.Resource {
	said := firsts(docs)
	var list []api.Resource
	for _, r := range conf {
		if _, is := said[keyOf(r)]; !is {
			list = append(list, r)
		}
	}
	for _, d := range docs {
		if !d.Delete {
			list = append(list, d)
		}
	}
	return list
}
