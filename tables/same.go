package tables

import (
	"slices"
	"strings"

	"turnpike/api"
)

func isSameHost(a, b api.Host) bool {
	return a.Host == b.Host && a.Route == b.Route &&
		slices.EqualFunc(a.Entries, b.Entries, isSameEntry) &&
		slices.Equal(a.Permits, b.Permits)
}

// isSameEntry: shares are held against each other as structs are, so their reals by float64's own ==.
func isSameEntry(a, b api.Entry) bool {
	return a.Path == b.Path && a.Method == b.Method && slices.Equal(a.Shares, b.Shares)
}

func copyOfHost(h api.Host) api.Host {
	return api.Host{
		Host:    strings.Clone(h.Host),
		Route:   strings.Clone(h.Route),
		Entries: copies(h.Entries, copyOfEntry),
		Permits: copies(h.Permits, copyOfPermit),
	}
}

func copyOfEntry(e api.Entry) api.Entry {
	return api.Entry{Path: strings.Clone(e.Path), Method: strings.Clone(e.Method), Shares: copies(e.Shares, copyOfShare)}
}

func copyOfPermit(p api.Permit) api.Permit {
	return api.Permit{Path: strings.Clone(p.Path), Method: strings.Clone(p.Method), Allow: p.Allow}
}

func copyOfShare(s api.Share) api.Share {
	return api.Share{Service: strings.Clone(s.Service), Upto: s.Upto}
}

func copies[T, U any](list []T, copied func(T) U) []U {
	out := make([]U, 0, len(list))
	for _, x := range list {
		out = append(out, copied(x))
	}
	return out
}
