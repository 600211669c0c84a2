package emit

import (
	"turnpike/api"
	"turnpike/lines"
)

// isTree: whether the list is a tree. Its nodes need not stand in the order in which they are written: a parent stands ahead of its kids, no more is asked.
func isTree(nodes []api.Node) bool {
	if len(nodes) == 0 || len(nodes) > api.MaxNodes || nodes[0].Key != "" {
		return false
	}
	s := shape{nodes: nodes, depths: make([]int, len(nodes))}
	s.depths[0] = 1
	for at, n := range nodes {
		if !s.isHung(at) || !isNode(n) || !s.hang(at) || !s.keysFit(n) {
			return false
		}
	}
	return true
}

// shape goes through a list from its root on: the depths are those of the nodes whose parents it has seen, of all others 0.
type shape struct {
	nodes  []api.Node
	depths []int
}

// isHung: whether the node, when all those ahead of it were seen, has a place in the tree.
func (s shape) isHung(at int) bool { return s.depths[at] >= 1 && s.depths[at] <= api.MaxDeep }

// hang gives a node's kids their depth; false, if they do not rise, or one is not behind it in the list, or has a parent already.
func (s shape) hang(at int) bool {
	last := at
	for _, kid := range s.nodes[at].Kids {
		if kid <= last || kid >= len(s.nodes) || s.depths[kid] > 0 {
			return false
		}
		s.depths[kid] = s.depths[at] + 1
		last = kid
	}
	return true
}

// keysFit: whether a map's kids have unlike keys, and those of others none. (A map's kid may have one without a text: layer 9 reads such trees.)
func (s shape) keysFit(n api.Node) bool {
	had := map[string]struct{}{}
	for _, kid := range n.Kids {
		key := s.nodes[kid].Key
		if n.Kind != api.Map && key != "" {
			return false
		}
		if _, is := had[key]; is && n.Kind == api.Map {
			return false
		}
		had[key] = struct{}{}
	}
	return true
}

// isNode: whether a node, looked at by itself, may be in a tree.
func isNode(n api.Node) bool {
	switch n.Kind {
	case api.Scalar:
		return len(n.Kids) == 0 && (n.Quoted || n.Text == "" || lines.Plain(n.Text))
	case api.Map, api.Seq:
		return len(n.Kids) > 0 && n.Text == "" && !n.Quoted
	}
	return false
}
