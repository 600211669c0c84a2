package tree_test

import (
	"slices"
	"strconv"
	"strings"
	"testing"

	"turnpike/api"
	"turnpike/lines"
	"turnpike/tree"
)

func docAt(line int) lines.Token { return lines.Token{Kind: lines.Doc, Line: line} }

func itemAt(line, col int) lines.Token { return lines.Token{Kind: lines.Item, Line: line, Col: col} }

func keyAt(line, col int, s string) lines.Token {
	return lines.Token{Kind: lines.Key, Line: line, Col: col, Text: s}
}

func textAt(line, col int, s string) lines.Token {
	return lines.Token{Kind: lines.Scalar, Line: line, Col: col, Text: s}
}

// wantOf: the tokens make one tree, that one.
func wantOf(t *testing.T, want *part, tokens ...lines.Token) {
	t.Helper()
	got, f := tree.Of(tokens)
	if f != (api.Fault{}) || len(got) != 1 || !sameTree(got[0], nodes(want)) {
		t.Errorf("%v: %v, %v, want %v", tokens, got, f, nodes(want))
	}
}

// wantNotOf: the tokens are refused, with no trees.
func wantNotOf(t *testing.T, doc, line int, e api.Errno, tokens ...lines.Token) {
	t.Helper()
	got, f := tree.Of(tokens)
	if f != (api.Fault{Doc: doc, Line: line, Err: e}) || len(got) != 0 {
		t.Errorf("%v: %v, %v, want %d, %d, %d", tokens, got, f, doc, line, int(e))
	}
}

// P9.2: any list of tokens: columns and lines are looked at as they are, and what a token says that its kind does not use says nothing.
func TestTokensThatNoTextHas(t *testing.T) {
	wantOf(t, mapOf(5, under("a", text(5, "x"))), keyAt(5, 9, "a"), textAt(5, 2, "x"))
	wantOf(t, mapOf(5, under("a", text(3, "x"))), keyAt(5, 0, "a"), textAt(3, 1, "x"))
	wantOf(t, mapOf(1, under("a", none(1)), under("b", none(1))), keyAt(1, 0, "a"), keyAt(1, 0, "b"))
	wantNotOf(t, 0, 1, api.ErrTree, keyAt(1, 0, "a"), keyAt(1, 4, "b"))
	wantNotOf(t, 0, 1, api.ErrTree, keyAt(1, 0, "a"), itemAt(1, 4))
	wantNotOf(t, 0, 1, api.ErrTree, keyAt(1, 0, "a"), itemAt(1, 0))
	wantOf(t, mapOf(1, under("a", seq(0, none(0)))), keyAt(1, 0, "a"), itemAt(0, 0))
	wantOf(t, seq(1, seq(1, seq(1, none(1)))), itemAt(1, 0), itemAt(1, 0), itemAt(1, 0))
	wantOf(t, seq(1, none(1), none(2)), itemAt(1, 4), itemAt(2, 4))
	wantOf(t, seq(1, mapOf(1, under("a", none(1)))), itemAt(1, 4), keyAt(1, 0, "a"))
	wantOf(t, seq(1, seq(1, none(1), none(2))), itemAt(1, 4), itemAt(1, 0), itemAt(2, 0))
	wantOf(t, seq(1, seq(1, seq(2, none(2)))), itemAt(1, 4), itemAt(1, 0), itemAt(2, 4))
	wantOf(t, seq(1, text(1, "x")), itemAt(1, 4), textAt(1, -7, "x"))
	wantOf(t, mapOf(-3, under("a", seq(-4, none(-4))), under("b", none(-3))), keyAt(-3, -9, "a"), itemAt(-4, -9), keyAt(-3, -9, "b"))
	wantOf(t, seq(1, none(1)), lines.Token{Kind: lines.Item, Line: 1, Text: "x", Quoted: true})
	wantOf(t, mapOf(1, under("x", quoted(1, "y"))), lines.Token{Kind: lines.Key, Line: 1, Text: "x", Quoted: true}, lines.Token{Kind: lines.Scalar, Line: 1, Text: "y", Quoted: true})
	wantNotOf(t, 1, 8, api.ErrTree, textAt(1, 0, "x"), lines.Token{Kind: lines.Doc, Line: 5, Col: 7, Text: "y"}, textAt(1, 0, "x"), textAt(8, 0, "z"))
}

// P9.2: a token of no kind has no block: it begins no document and is nobody's value.
func TestTokensWithoutABlock(t *testing.T) {
	for _, kind := range []int{0, 5, 9, -1, -4, 1 << 40} {
		odd := lines.Token{Kind: kind, Line: 7, Col: 3, Text: "x"}
		wantNotOf(t, 0, 7, api.ErrTree, odd)
		wantNotOf(t, 0, 7, api.ErrTree, odd, odd)
		wantNotOf(t, 0, 7, api.ErrTree, textAt(1, 0, "x"), odd)
		wantNotOf(t, 0, 7, api.ErrTree, keyAt(7, 0, "x"), odd)
		wantNotOf(t, 0, 7, api.ErrTree, keyAt(6, 0, "x"), odd)
		wantNotOf(t, 0, 7, api.ErrTree, itemAt(7, 0), odd)
		wantNotOf(t, 0, 7, api.ErrTree, itemAt(6, 0), odd)
		wantNotOf(t, 2, 7, api.ErrTree, textAt(1, 0, "x"), docAt(2), docAt(2), textAt(3, 0, "y"), docAt(2), odd)
	}
}

// P9.2: keys that a map has already, whether they are quoted or not; other maps may have them.
func TestTwice(t *testing.T) {
	wantFault(t, "a: 1\nb: 2\na: 3", 0, 3, api.ErrTwice)
	wantFault(t, "a:\n'a': 3", 0, 2, api.ErrTwice)
	wantFault(t, "'': 1\n\"\": 3", 0, 2, api.ErrTwice)
	wantFault(t, "x:\n- a: 1\n  b: 2\n  b: 3", 0, 4, api.ErrTwice)
	wantFault(t, "a:\n  b: 1\na: 2\n", 0, 3, api.ErrTwice)
	wantFault(t, "a: 1\n---\nb: 1\nb: 2", 1, 4, api.ErrTwice)
	wantParts(t, "a:\n  a:\n    a: 1\n  A: 2\nA: 3", mapOf(1, under("a", mapOf(2, under("a", mapOf(3, under("a", text(3, "1")))), under("A", text(4, "2")))), under("A", text(5, "3"))))
	wantParts(t, "- a: 1\n- a: 1", seq(1, mapOf(1, under("a", text(1, "1"))), mapOf(2, under("a", text(2, "1")))))
	var b strings.Builder
	for i := range 4000 {
		b.WriteString("k" + strconv.Itoa(i) + ":\n")
	}
	if l, f := tree.Parse([]byte(b.String())); f != (api.Fault{}) || len(l[0]) != 4001 {
		t.Errorf("four thousand keys: %v", f)
	}
	wantFault(t, b.String()+"k0: 1", 0, 4001, api.ErrTwice)
	wantFault(t, b.String()+"k3999:", 0, 4001, api.ErrTwice)
}

// P9.2: of several faults the first one by tokens.
func TestFirstFault(t *testing.T) {
	wantFault(t, "a: 1\na: 2\n- 3", 0, 2, api.ErrTwice)
	wantFault(t, "a: 1\n- 3\na: 2", 0, 2, api.ErrTree)
	wantFault(t, "a: 1\n---\nb: 1\n2\n---\nc: 1\nc: 1", 1, 4, api.ErrTree)
	wantFault(t, "a:\na:\n   b: 1\n  c:", 0, 2, api.ErrTwice)
	wantFault(t, "a: 1\nb: 2\nb: 3\n  c: 4", 0, 3, api.ErrTwice)
	wantFault(t, strings.Repeat("- ", 20)+"\n1", 0, 1, api.ErrDeep)
	wantFault(t, "x\n"+strings.Repeat("- ", 20), 0, 2, api.ErrTree)
}

// deep: items one in another, each on a line of its own, and what stands in the last, on a line of its own too.
func deep(items int, last string) string {
	var b strings.Builder
	for i := range items {
		b.WriteString(strings.Repeat(" ", i) + "-\n")
	}
	return b.String() + strings.Repeat(" ", items) + last
}

// P9.2: ErrDeep at the token with which a node that is too deep is begun.
func TestDeep(t *testing.T) {
	for _, last := range []string{"x", "''"} {
		if l, f := tree.Parse([]byte(deep(15, last))); f != (api.Fault{}) || tree.Depth(l[0]) != 16 || len(l[0]) != 16 {
			t.Errorf("%q at 16: %v, %v", last, l, f)
		}
		wantFault(t, deep(16, last), 0, 17, api.ErrDeep)
	}
	// A sequence and a map at 16 have nothing in them that may be; a scalar without a token is begun with what it stands for.
	for _, last := range []string{"-", "- 1", "a:", "a: 1"} {
		if l, f := tree.Parse([]byte(deep(14, last))); f != (api.Fault{}) || tree.Depth(l[0]) != 16 {
			t.Errorf("%q at 15: %v, %v", last, l, f)
		}
		wantFault(t, deep(15, last), 0, 16, api.ErrDeep)
		wantFault(t, deep(15, last+"\nx"), 0, 16, api.ErrDeep)
		wantFault(t, deep(14, last+"\nx"), 0, 16, api.ErrTree)
		wantFault(t, deep(14, "- "+last), 0, 15, api.ErrDeep)
	}
	wantFault(t, deep(15, "-\n"+strings.Repeat(" ", 20)+"1"), 0, 17, api.ErrDeep)
	wantFault(t, deep(15, "a:\n"+strings.Repeat(" ", 20)+"1"), 0, 17, api.ErrDeep)
	wantFault(t, deep(15, "a:\n"+strings.Repeat(" ", 15)+"- 1"), 0, 17, api.ErrDeep)
	wantFault(t, deep(15, "a:\n"+strings.Repeat(" ", 15)+"1"), 0, 16, api.ErrDeep)
	wantFault(t, deep(15, "a:\n"+strings.Repeat(" ", 15)+"a:"), 0, 16, api.ErrDeep)
	wantFault(t, "x\n---\n"+deep(40, "x"), 1, 19, api.ErrDeep)
	wantFault(t, strings.Repeat("- ", 32768), 0, 1, api.ErrDeep)
}

// P9.2: a key twice in a map whose values are as deep as may be, and what is too deep behind it.
func TestDeepAndTwice(t *testing.T) {
	var l []lines.Token
	for i := range 14 {
		l = append(l, itemAt(i, i))
	}
	with := func(more ...lines.Token) []lines.Token { return slices.Concat(l, more) }
	wantNotOf(t, 0, 15, api.ErrTwice, with(keyAt(14, 14, "a"), keyAt(15, 14, "a"))...)
	wantNotOf(t, 0, 15, api.ErrTwice, with(keyAt(14, 14, "a"), keyAt(15, 14, "a"), itemAt(16, 15), itemAt(16, 17))...)
	wantNotOf(t, 0, 17, api.ErrDeep, with(keyAt(14, 14, "a"), keyAt(15, 14, "b"), itemAt(16, 15), itemAt(17, 17))...)
	wantNotOf(t, 0, 16, api.ErrDeep, with(keyAt(14, 14, "a"), keyAt(15, 14, "b"), keyAt(16, 17, "c"), keyAt(17, 17, "c"))...)
}

// P9.2: ErrDeep at the token with which the 4097th node is begun.
func TestManyNodes(t *testing.T) {
	const most = api.MaxNodes
	full := strings.Repeat("- 1\n", most-1)
	if l, f := tree.Parse([]byte(full)); f != (api.Fault{}) || len(l) != 1 || len(l[0]) != most || !tree.May(l[0]) {
		t.Fatalf("as many as may be: %v", f)
	}
	wantFault(t, full+"- 1", 0, most, api.ErrDeep)
	wantFault(t, full+"-", 0, most, api.ErrDeep)
	wantFault(t, full+"-\n  1", 0, most+1, api.ErrDeep)
	wantFault(t, full+"-\nx", 0, most, api.ErrDeep)
	wantFault(t, full+"-\n  a: 1\n  a: 2", 0, most+1, api.ErrDeep)
	wantFault(t, full+"x\n- 1", 0, most, api.ErrTree)
	wantFault(t, strings.Repeat("- 1\n", most-2)+"- a: 1", 0, most-1, api.ErrDeep)
	wantFault(t, strings.Repeat("- 1\n", most-2)+"- a:\n    1", 0, most, api.ErrDeep)
	// A document's nodes are its own.
	two := full + "---\n" + full
	if l, f := tree.Parse([]byte(two)); f != (api.Fault{}) || len(l) != 2 || len(l[1]) != most {
		t.Errorf("two that are full: %v", f)
	}
	wantFault(t, two+"-", 1, 2*most, api.ErrDeep)
}

// P9.2: of one key ErrTwice comes ahead of what is begun behind it.
func TestManyNodesAndTwice(t *testing.T) {
	var l []lines.Token
	for i := range api.MaxNodes - 1 {
		l = append(l, keyAt(i, 0, strconv.Itoa(i)))
	}
	if got, f := tree.Of(l); f != (api.Fault{}) || len(got[0]) != api.MaxNodes {
		t.Fatalf("as many as may be: %v", f)
	}
	with := func(more ...lines.Token) []lines.Token { return slices.Concat(l, more) }
	wantNotOf(t, 0, 5000, api.ErrTwice, with(keyAt(5000, 0, "7"))...)
	wantNotOf(t, 0, 5000, api.ErrTwice, with(keyAt(5000, 0, "7"), textAt(5000, 3, "x"))...)
	wantNotOf(t, 0, 5000, api.ErrDeep, with(keyAt(5000, 0, "x"), keyAt(5001, 0, "7"))...)
	wantNotOf(t, 0, 5001, api.ErrDeep, with(keyAt(5000, 0, "x"), textAt(5001, 3, "x"))...)
}

// P0.1: lists of tokens that are far too long end.
func TestManyTokens(t *testing.T) {
	wantNotOf(t, 0, 1, api.ErrDeep, slices.Repeat([]lines.Token{itemAt(1, 0)}, 1<<20)...)
	wantNotOf(t, 0, 0, api.ErrDeep, slices.Repeat([]lines.Token{itemAt(0, 0), textAt(0, 2, "x")}, 1<<20)...)
	wantNotOf(t, 0, 0, api.ErrTwice, slices.Repeat([]lines.Token{keyAt(0, 0, "a")}, 1<<20)...)
	if l, f := tree.Of(slices.Repeat([]lines.Token{docAt(3)}, 1<<20)); len(l) != 0 || f != (api.Fault{}) {
		t.Errorf("documents alone: %d, %v", len(l), f)
	}
	if l, f := tree.Of(slices.Repeat([]lines.Token{docAt(3), textAt(4, 0, "x")}, 1<<17)); len(l) != 1<<17 || f != (api.Fault{}) {
		t.Errorf("many documents: %d, %v", len(l), f)
	}
	for _, l := range [][]lines.Token{nil, {}} {
		if trees, f := tree.Of(l); len(trees) != 0 || f != (api.Fault{}) {
			t.Errorf("of nothing: %v, %v", trees, f)
		}
	}
	if trees, f := tree.Parse(nil); len(trees) != 0 || f != (api.Fault{}) {
		t.Errorf("Parse of nil: %v, %v", trees, f)
	}
}
