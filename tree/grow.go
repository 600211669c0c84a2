package tree

import (
	"slices"
	"strings"

	"turnpike/api"
	"turnpike/lines"
)

// wrong is the fault of a document that is given up: it is thrown where it is met, and caught at the face.
type wrong api.Fault

// caught: the fault that was thrown; the zero one, if nothing was.
func caught(thrown any) api.Fault {
	if thrown == nil {
		return api.Fault{}
	}
	why, is := thrown.(wrong)
	if !is {
		panic(thrown) // no document's: a fault of this package must not pass for an answer
	}
	return api.Fault(why)
}

// cutDocument: the tokens ahead of the first one that begins a document, and those behind it.
func cutDocument(tokens []lines.Token) (document, rest []lines.Token) {
	n := slices.IndexFunc(tokens, func(t lines.Token) bool { return t.Kind == lines.Doc })
	if n < 0 {
		return tokens, nil
	}
	return tokens[:n], tokens[n+1:]
}

// grower makes a document's tree: what is in rest is not taken yet.
type grower struct {
	doc   int
	rest  []lines.Token
	nodes []api.Node
}

// grow: the tree of a document that has tokens.
func grow(document []lines.Token, doc int) []api.Node {
	g := grower{doc: doc, rest: document}
	g.block("", 1)
	if len(g.rest) > 0 {
		g.giveUp(g.rest[0], api.ErrTree)
	}
	return g.nodes
}

func (g *grower) giveUp(t lines.Token, e api.Errno) {
	panic(wrong{Doc: g.doc, Line: t.Line, Err: e})
}

func (g *grower) take() lines.Token {
	t := g.rest[0]
	g.rest = g.rest[1:]
	return t
}

// isNext: whether the next token is of that kind, in that column.
func (g *grower) isNext(kind, col int) bool {
	return len(g.rest) > 0 && g.rest[0].Kind == kind && g.rest[0].Col == col
}

// begin adds a node that is begun with a token, and tells its number. Its texts are new ones: those of a token may lie in memory that is another's.
func (g *grower) begin(t lines.Token, n api.Node, depth int) int {
	if depth > api.MaxDeep || len(g.nodes) == api.MaxNodes {
		g.giveUp(t, api.ErrDeep)
	}
	n.Key, n.Text, n.Line = strings.Clone(n.Key), strings.Clone(n.Text), t.Line
	g.nodes = append(g.nodes, n)
	return len(g.nodes) - 1
}

// block takes the block of the next token; nothing, if it has none.
func (g *grower) block(key string, depth int) {
	t := g.rest[0]
	switch t.Kind {
	case lines.Scalar:
		g.begin(t, api.Node{Kind: api.Scalar, Key: key, Text: t.Text, Quoted: t.Quoted}, depth)
		g.take()
	case lines.Key:
		at := g.begin(t, api.Node{Kind: api.Map, Key: key}, depth)
		kids := g.pairs(t.Col, depth) // ahead of the assignment: the list of nodes moves as it grows
		g.nodes[at].Kids = kids
	case lines.Item:
		at := g.begin(t, api.Node{Kind: api.Seq, Key: key}, depth)
		kids := g.items(t.Col, depth)
		g.nodes[at].Kids = kids
	}
}

// pairs takes the keys of a map and their values, and tells the values' numbers.
func (g *grower) pairs(col, depth int) []int {
	var kids []int
	had := map[string]struct{}{}
	for g.isNext(lines.Key, col) {
		key := g.take()
		if _, is := had[key.Text]; is {
			g.giveUp(key, api.ErrTwice)
		}
		had[key.Text] = struct{}{}
		kids = append(kids, len(g.nodes))
		g.value(key, key.Text, depth+1)
	}
	return kids
}

// items takes the items of a sequence and their values, and tells the values' numbers.
func (g *grower) items(col, depth int) []int {
	var kids []int
	for g.isNext(lines.Item, col) {
		item := g.take()
		kids = append(kids, len(g.nodes))
		g.value(item, "", depth+1)
	}
	return kids
}

// value takes the value of a token that was taken: the next block, or a scalar that has no token.
func (g *grower) value(of lines.Token, key string, depth int) {
	if len(g.rest) > 0 && isValue(g.rest[0], of) {
		g.block(key, depth)
		return
	}
	g.begin(of, api.Node{Kind: api.Scalar, Key: key}, depth)
}

func hasBlock(t lines.Token) bool {
	return t.Kind == lines.Key || t.Kind == lines.Item || t.Kind == lines.Scalar
}

// isValue: whether the block of t is the value of a key or of an item, with t right behind it.
func isValue(t, of lines.Token) bool {
	beside, above := t.Line == of.Line, t.Col > of.Col
	switch {
	case !hasBlock(t):
		return false
	case of.Kind == lines.Item:
		return beside || above
	case beside:
		return t.Kind == lines.Scalar
	}
	return above || t.Kind == lines.Item && t.Col == of.Col
}
