package tree

import (
	"slices"
	"strings"

	"turnpike/api"
)

func within(nodes []api.Node, at int) bool { return at >= 0 && at < len(nodes) }

// walker goes through any list as through a tree: at is the node that comes next.
type walker struct {
	nodes   []api.Node
	at      int
	deepest int
}

// subtree goes through the next node and all below it; false, if that is no tree. The bound of the depth bounds how often it calls itself, too.
func (w *walker) subtree(depth int) bool {
	if !within(w.nodes, w.at) || depth > api.MaxDeep || !isNode(w.nodes[w.at]) {
		return false
	}
	n := w.nodes[w.at]
	w.at++
	w.deepest = max(w.deepest, depth)
	for _, kid := range n.Kids {
		if kid != w.at || !w.subtree(depth+1) {
			return false
		}
	}
	if n.Kind == api.Map {
		return w.unlikeKeys(n.Kids)
	}
	return w.noKeys(n.Kids)
}

// isNode: whether a node, looked at by itself, may be in a tree.
func isNode(n api.Node) bool {
	switch n.Kind {
	case api.Scalar:
		return n.Line >= 0 && len(n.Kids) == 0
	case api.Map, api.Seq:
		return n.Line >= 0 && len(n.Kids) > 0 && n.Text == "" && !n.Quoted
	}
	return false
}

func (w *walker) unlikeKeys(kids []int) bool {
	had := map[string]struct{}{}
	for _, kid := range kids {
		had[w.nodes[kid].Key] = struct{}{}
	}
	return len(had) == len(kids)
}

func (w *walker) noKeys(kids []int) bool {
	return !slices.ContainsFunc(kids, func(kid int) bool { return w.nodes[kid].Key != "" })
}

// end: the number behind the last node of a tree's part.
func end(nodes []api.Node, at int) int {
	for len(nodes[at].Kids) > 0 {
		at = nodes[at].Kids[len(nodes[at].Kids)-1]
	}
	return at + 1
}

// moved: a node, in new memory, as it is when its list begins so many nodes later.
func moved(n api.Node, by int) api.Node {
	var kids []int
	for _, kid := range n.Kids {
		kids = append(kids, kid-by)
	}
	n.Key, n.Text, n.Kids = strings.Clone(n.Key), strings.Clone(n.Text), kids
	return n
}
