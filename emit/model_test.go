package emit_test

import (
	"math/rand"
	"strings"
	"testing"

	"turnpike/api"
	"turnpike/lines"
	"turnpike/tree"
)

// treeOf: the tree of a text's only document.
func treeOf(t *testing.T, s string) []api.Node {
	t.Helper()
	trees, f := tree.Parse([]byte(s))
	if f != (api.Fault{}) || len(trees) != 1 {
		t.Fatalf("%.200q: %d trees, %v", s, len(trees), f)
	}
	return trees[0]
}

// modelLines: the lines of a node's block, as they are at the indent 0.
func modelLines(l []api.Node, at int) []string {
	n := l[at]
	if n.Kind == api.Scalar {
		if s := modelScalar(n); s != "" {
			return []string{s}
		}
		return nil
	}
	var all []string
	for _, kid := range n.Kids {
		line, below := "-", modelLines(l, kid)
		if n.Kind == api.Map {
			line = modelKey(l[kid].Key) + ":"
		}
		if len(below) > 0 && (n.Kind == api.Seq || l[kid].Kind == api.Scalar) {
			line, below = line+" "+below[0], below[1:]
		}
		all = append(all, line)
		for _, s := range below {
			all = append(all, "  "+s)
		}
	}
	return all
}

func modelScalar(n api.Node) string {
	if n.Quoted {
		return lines.Quote(n.Text)
	}
	return n.Text
}

func modelKey(key string) string {
	if key != "" && len(key) <= 64 && strings.Trim(key, "ABCDEFGHIJKLMNOPQRSTUVWXYZabcdefghijklmnopqrstuvwxyz0123456789_-.") == "" {
		return key
	}
	return lines.Quote(key)
}

func modelText(l []api.Node) string {
	var b strings.Builder
	for _, line := range modelLines(l, 0) {
		b.WriteString(line + "\n")
	}
	return b.String()
}

// modelTree: whether the list is a tree, by the chapter's words one by one.
func modelTree(l []api.Node) bool {
	if len(l) < 1 || len(l) > 4096 {
		return false
	}
	parents := make([]int, len(l)) // the node of which each is a kid, -1 of none
	for i := range parents {
		parents[i] = -1
	}
	for i, n := range l {
		for j, kid := range n.Kids {
			if kid < 0 || kid >= len(l) || j > 0 && kid <= n.Kids[j-1] || parents[kid] >= 0 {
				return false
			}
			parents[kid] = i
		}
	}
	for i, n := range l {
		if i == 0 && parents[i] >= 0 || i > 0 && (parents[i] < 0 || parents[i] >= i) {
			return false
		}
		if !modelNode(n) || !modelKeys(l, n) || i == 0 && n.Key != "" {
			return false
		}
		depth := 1
		for up := i; up > 0; up = parents[up] {
			depth++
		}
		if depth > 16 {
			return false
		}
	}
	return true
}

func modelNode(n api.Node) bool {
	if n.Kind == api.Scalar {
		return len(n.Kids) == 0 && (n.Quoted || n.Text == "" || lines.Plain(n.Text))
	}
	return (n.Kind == api.Map || n.Kind == api.Seq) && len(n.Kids) >= 1 && n.Text == "" && !n.Quoted
}

func modelKeys(l []api.Node, n api.Node) bool {
	keys := map[string]int{}
	for _, kid := range n.Kids {
		keys[l[kid].Key]++
	}
	if n.Kind == api.Map {
		return len(keys) == len(n.Kids)
	}
	return keys[""] == len(n.Kids)
}

// wantModel: Emit and May answer what the models say; whether the list is a tree.
func wantModel(t *testing.T, l []api.Node) bool {
	t.Helper()
	if !modelTree(l) {
		wantError(t, l, api.ErrEmit)
		return false
	}
	if s := modelText(l); len(s) > 65536 {
		wantError(t, l, api.ErrLong)
	} else {
		wantText(t, l, s)
	}
	return true
}

// someKeys, someScalars: what stands for itself, and what does not, or looks like something else.
func someKeys() []string {
	return []string{"a", "b", "kind", "x-1", "A.b_c", "-", "---", "--- x", ".", "0", "", " ", "a b", "a:", ":", "#", "- a", "*", "\"", "'", "\\", "\n", "\t", "\x00", "\x7f", "\xff", "\u00e9", strings.Repeat("k", 64), strings.Repeat("k", 65)}
}

func someScalars() []api.Node {
	l := []api.Node{scalar("")}
	for _, s := range []string{"x", "y", "a b", "a  b", "-5", "---x", "--- x", "--", "a:b", "/a/*", "a#b", "a'", "~", "0.5", "\xff", strings.Repeat("x", 70)} {
		l = append(l, scalar(s), quoted(s))
	}
	for _, s := range append(someKeys(), "- - x", "a: b", "a: b\n", "a #b", "---\n", " x", "x ", "\"a\": b", "\\x00") {
		l = append(l, quoted(s))
	}
	return l
}

// anyNode: a node by itself that is scalar so many times out of ten.
func anyNode(r *rand.Rand, scalars int) api.Node {
	if r.Intn(10) < scalars {
		l := someScalars()
		return l[r.Intn(len(l))]
	}
	return []api.Node{aMap(), aSeq()}[r.Intn(2)]
}

// anyTree: a tree. Its nodes stand in the order in which they are written, or, a loose one's, anyhow behind their parents.
func anyTree(r *rand.Rand, size int, loose bool) []api.Node {
	var p plant
	var depths []int
	p.hang(-1, anyNode(r, 1))
	depths = append(depths, 1)
	open := []int{0} // to which the next may be hung
	for range size {
		i := r.Intn(len(open))
		parent := open[i]
		if p.nodes[parent].Kind == api.Scalar {
			break
		}
		n := anyNode(r, 3+depths[parent]/15*7)
		if p.nodes[parent].Kind == api.Map {
			n.Key = freeKey(r, p.nodes, parent)
		}
		at := p.hang(parent, n)
		depths = append(depths, depths[parent]+1)
		if !loose {
			open = open[:i+1]
		}
		if n.Kind != api.Scalar {
			open = append(open, at)
		}
	}
	return ended(p.nodes)
}

// freeKey: a key that the map does not have yet.
func freeKey(r *rand.Rand, l []api.Node, at int) string {
	had := map[string]bool{}
	for _, kid := range l[at].Kids {
		had[l[kid].Key] = true
	}
	for {
		s := someKeys()[r.Intn(len(someKeys()))]
		if r.Intn(3) == 0 || had[s] {
			s = string([]byte{byte('a' + r.Intn(26)), byte(r.Intn(256))})
		}
		if !had[s] {
			return s
		}
	}
}

// ended: maps and sequences that have no kids are scalars.
func ended(l []api.Node) []api.Node {
	for i := range l {
		if len(l[i].Kids) == 0 && l[i].Kind != api.Scalar {
			l[i].Kind = api.Scalar
		}
	}
	return l
}

// inOrder: the tree with its nodes in the order in which they are written.
func inOrder(l []api.Node, at int) []api.Node {
	n := l[at]
	part := []api.Node{{Kind: n.Kind, Key: n.Key, Text: n.Text, Quoted: n.Quoted}}
	for _, kid := range n.Kids {
		here := len(part)
		part[0].Kids = append(part[0].Kids, here)
		for _, m := range inOrder(l, kid) {
			for i := range m.Kids {
				m.Kids[i] += here
			}
			part = append(part, m)
		}
	}
	return part
}
