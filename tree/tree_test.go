package tree_test

import (
	"slices"
	"strings"
	"testing"

	"turnpike/api"
	"turnpike/lines"
	"turnpike/tree"
)

// part is a node with what stands below it: a tree as a test writes it down.
type part struct {
	node api.Node
	kids []*part
}

func text(line int, s string) *part {
	return &part{node: api.Node{Kind: api.Scalar, Text: s, Line: line}}
}

func quoted(line int, s string) *part {
	return &part{node: api.Node{Kind: api.Scalar, Text: s, Quoted: true, Line: line}}
}

// none: a scalar without a token.
func none(line int) *part { return text(line, "") }

func seq(line int, kids ...*part) *part {
	return &part{node: api.Node{Kind: api.Seq, Line: line}, kids: kids}
}

func mapOf(line int, kids ...*part) *part {
	return &part{node: api.Node{Kind: api.Map, Line: line}, kids: kids}
}

func under(key string, p *part) *part {
	p.node.Key = key
	return p
}

// nodes: the list of a tree.
func nodes(p *part) []api.Node {
	l := []api.Node{p.node}
	for _, kid := range p.kids {
		here := len(l)
		l[0].Kids = append(l[0].Kids, here)
		for _, n := range nodes(kid) {
			for i := range n.Kids {
				n.Kids[i] += here
			}
			l = append(l, n)
		}
	}
	return l
}

func sameNode(a, b api.Node) bool {
	return a.Kind == b.Kind && a.Key == b.Key && a.Text == b.Text && a.Quoted == b.Quoted && a.Line == b.Line && slices.Equal(a.Kids, b.Kids)
}

func sameTree(a, b []api.Node) bool { return slices.EqualFunc(a, b, sameNode) }

func sameTrees(a, b [][]api.Node) bool { return slices.EqualFunc(a, b, sameTree) }

// lined: a text with its line ends written as /.
func lined(s string) string { return strings.ReplaceAll(s, "/", "\n") }

// wantParts: the text is read as these trees, and each of them may be.
func wantParts(t *testing.T, s string, want ...*part) {
	t.Helper()
	var trees [][]api.Node
	for _, p := range want {
		trees = append(trees, nodes(p))
	}
	got, f := tree.Parse([]byte(s))
	if f != (api.Fault{}) || !sameTrees(got, trees) {
		t.Errorf("%.100q: %v, %v, want %v", s, got, f, trees)
	}
	for _, l := range got {
		if !tree.May(l) {
			t.Errorf("%.100q: may not be: %v", s, l)
		}
	}
}

// wantFault: the text is refused, with no trees.
func wantFault(t *testing.T, s string, doc, line int, e api.Errno) {
	t.Helper()
	got, f := tree.Parse([]byte(s))
	if f != (api.Fault{Doc: doc, Line: line, Err: e}) || len(got) != 0 {
		t.Errorf("%.100q: %v, %v, want %d, %d, %d", s, got, f, doc, line, int(e))
	}
}

// P9.1, P9.2: the chapter's examples.
func TestExamples(t *testing.T) {
	wantParts(t, lined("kind: Service/name: a/endpoints:/  - e1/  - e2"),
		mapOf(1, under("kind", text(1, "Service")), under("name", text(2, "a")), under("endpoints", seq(4, text(4, "e1"), text(5, "e2")))))
	wantParts(t, "rules:\n- path: /a*\n  split: s\n-\n  path: \"*\"",
		mapOf(1, under("rules", seq(2, mapOf(2, under("path", text(2, "/a*")), under("split", text(3, "s"))), mapOf(5, under("path", quoted(5, "*")))))))
	wantParts(t, lined("a:/b:/  -"), mapOf(1, under("a", none(1)), under("b", seq(3, none(3)))))
	wantParts(t, lined("- - 1/  - 2/- 3"), seq(1, seq(1, text(1, "1"), text(2, "2")), text(3, "3")))
	wantParts(t, lined("---/x/---/---/y"), text(2, "x"), text(5, "y"))
	for _, s := range []string{"", "# so", "---"} {
		wantParts(t, s)
	}
	wantFault(t, lined("a: 1/ b: 2"), 0, 2, api.ErrTree)
	wantFault(t, lined("a: 1/a: 2"), 0, 2, api.ErrTwice)
	wantFault(t, lined("a: 1/- 2"), 0, 2, api.ErrTree)
	wantFault(t, lined("a:/  b: 1/ c: 2"), 0, 3, api.ErrTree)
	wantFault(t, lined("a: \"1/b: 2"), 0, 1, api.ErrQuote)
	wantFault(t, lined("x/y"), 0, 2, api.ErrTree)
}

// P9.1: what Scan refuses is refused with its fault, whatever the tokens ahead of it are.
func TestFaultsOfLines(t *testing.T) {
	for _, s := range []string{"\t", "a: *", "a: 'b", "x\ny\n\t", "a: 1\na: 2\n---\n---\n\"", "---\n---\n\x7f", strings.Repeat("x", api.MaxText+1), strings.Repeat("- ", 17) + "\n*", strings.Repeat("\n", api.MaxText+1)} {
		_, want := lines.Scan([]byte(s))
		if want.Err == api.OK {
			t.Fatalf("%.40q is right", s)
		}
		wantFault(t, s, want.Doc, want.Line, want.Err)
	}
	// Scan counts what begins documents, Of the documents that are there.
	wantFault(t, "---\n---\n---\nx\n---\n*", 4, 6, api.ErrLine)
	wantFault(t, "---\n---\n---\nx\n---\ny: 1\nz", 1, 7, api.ErrTree)
}

// P9.2: what is a document, and that each has a tree of its own.
func TestDocuments(t *testing.T) {
	for _, s := range []string{"\n", "---\n---\n", "--- # x\n\n# y\n---"} {
		wantParts(t, s)
	}
	wantParts(t, "x", text(1, "x"))
	wantParts(t, "---\nx", text(2, "x"))
	wantParts(t, "x\n---\n", text(1, "x"))
	wantParts(t, "---\n---\n- 1\n---\n# so\n---\na:\n--- # y\n'z'\n---\n", seq(3, text(3, "1")), mapOf(7, under("a", none(7))), quoted(9, "z"))
	wantParts(t, "a: 1\n---\na: 2\n---\na: 3", mapOf(1, under("a", text(1, "1"))), mapOf(3, under("a", text(3, "2"))), mapOf(5, under("a", text(5, "3"))))
	wantParts(t, "a:\n---\n  b", mapOf(1, under("a", none(1))), text(3, "b"))
	wantParts(t, "-\n---\n  b", seq(1, none(1)), text(3, "b"))
	many := strings.Repeat("---\nx\n", 1000)
	got, f := tree.Parse([]byte(many))
	if f != (api.Fault{}) || len(got) != 1000 || got[999][0].Line != 2000 {
		t.Errorf("a thousand documents: %d, %v", len(got), f)
	}
	wantFault(t, many+"y", 999, 2001, api.ErrTree)
}

// P9.2: scalars, as roots too.
func TestScalars(t *testing.T) {
	wantParts(t, "\n\n   x y  # z", text(3, "x y"))
	wantParts(t, `"a\nb"`, quoted(1, "a\nb"))
	wantParts(t, "''", quoted(1, ""))
	wantParts(t, "a: ''", mapOf(1, under("a", quoted(1, ""))))
	wantParts(t, "- ''\n-\n- 'x'\n- x", seq(1, quoted(1, ""), none(2), quoted(3, "x"), text(4, "x")))
}

// P9.2: the value of a key: on its line, or on another one, above it, or an item at it.
func TestValuesOfKeys(t *testing.T) {
	wantParts(t, "a: 1", mapOf(1, under("a", text(1, "1"))))
	wantParts(t, "a:\n 1", mapOf(1, under("a", text(2, "1"))))
	wantParts(t, "a:\n\n\n     '1'\nb:", mapOf(1, under("a", quoted(4, "1")), under("b", none(5))))
	wantParts(t, "a:\n b:\n  c: 1\n d:\ne:", mapOf(1, under("a", mapOf(2, under("b", mapOf(3, under("c", text(3, "1")))), under("d", none(4)))), under("e", none(5))))
	wantParts(t, "a:\n- 1\n- 2\nb: 3", mapOf(1, under("a", seq(2, text(2, "1"), text(3, "2"))), under("b", text(4, "3"))))
	wantParts(t, "a:\n  - 1\n  - 2\nb: 3", mapOf(1, under("a", seq(2, text(2, "1"), text(3, "2"))), under("b", text(4, "3"))))
	wantParts(t, "a:\n  b:\n  - 1\n  c: 2", mapOf(1, under("a", mapOf(2, under("b", seq(3, text(3, "1"))), under("c", text(4, "2"))))))
	wantParts(t, "  a:\n  b:\n  - c:\n  d:", mapOf(1, under("a", none(1)), under("b", seq(3, mapOf(3, under("c", none(3))))), under("d", none(4))))
	wantParts(t, "\"\": 1\n'it''s':\n  x: 2\n", mapOf(1, under("", text(1, "1")), under("it's", mapOf(3, under("x", text(3, "2"))))))
	wantFault(t, "a:\n1", 0, 2, api.ErrTree)
	wantFault(t, " a:\n1", 0, 2, api.ErrTree)
	wantFault(t, " a:\n- 1", 0, 2, api.ErrTree)
	wantFault(t, " a:\nb: 1", 0, 2, api.ErrTree)
	wantFault(t, "a: 1\n  2", 0, 2, api.ErrTree)
	wantFault(t, "a: 1\n  - 2", 0, 2, api.ErrTree)
	wantFault(t, "a:\n- 1\n  - 2", 0, 3, api.ErrTree)
	wantFault(t, "a:\n  - 1\n- 2", 0, 3, api.ErrTree)
	wantFault(t, "a:\n  1\n  b: 2", 0, 3, api.ErrTree)
}

// P9.2: the value of an item: on its line, or above it.
func TestValuesOfItems(t *testing.T) {
	wantParts(t, "-", seq(1, none(1)))
	wantParts(t, "-\n-", seq(1, none(1), none(2)))
	wantParts(t, "-\n 1\n-\n  - 2\n  -\n", seq(1, text(2, "1"), seq(4, text(4, "2"), none(5))))
	wantParts(t, "- a: 1\n  b: 2\n- c:\n  d:", seq(1, mapOf(1, under("a", text(1, "1")), under("b", text(2, "2"))), mapOf(3, under("c", none(3)), under("d", none(4)))))
	wantParts(t, "-   a:\n    - 1\n    b: 2", seq(1, mapOf(1, under("a", seq(2, text(2, "1"))), under("b", text(3, "2")))))
	wantParts(t, "- a:\n  - 1\n- b", seq(1, mapOf(1, under("a", seq(2, text(2, "1")))), text(3, "b")))
	wantParts(t, "- - - x\n    - y\n  - z\n- ''", seq(1, seq(1, seq(1, text(1, "x"), text(2, "y")), text(3, "z")), quoted(4, "")))
	wantParts(t, "-\n  a: 1\n  b: 2", seq(1, mapOf(2, under("a", text(2, "1")), under("b", text(3, "2")))))
	wantFault(t, "-\n1", 0, 2, api.ErrTree)
	wantFault(t, "-\na: 1", 0, 2, api.ErrTree)
	wantFault(t, " -\n-", 0, 2, api.ErrTree)
	wantFault(t, "- 1\n  2", 0, 2, api.ErrTree)
	wantFault(t, "- 1\n  - 2", 0, 2, api.ErrTree)
	wantFault(t, "- a: 1\n b: 2", 0, 2, api.ErrTree)
	wantFault(t, "- a: 1\n   b: 2", 0, 2, api.ErrTree)
	wantFault(t, "- - 1\n - 2", 0, 2, api.ErrTree)
	wantFault(t, "- 1\na: 2", 0, 2, api.ErrTree)
}
