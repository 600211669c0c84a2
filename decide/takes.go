package decide

import (
	"turnpike/api"
	"turnpike/paths"
)

// every is the method of a line that takes whatever method, even such as is none.
const every = "*"

func takes(ofPath, ofMethod, method, path string) bool {
	return (ofMethod == every || ofMethod == method) && paths.Path(ofPath, path)
}

// endpointsOf: "" stands for no service, so that it has none, whatever the list says of it.
func endpointsOf(h []api.Healthy, service string) []string {
	if service == "" {
		return nil
	}
	for _, x := range h {
		if x.Service == service {
			return x.Endpoints
		}
	}
	return nil
}
