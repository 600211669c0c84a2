package emit_test

import (
	"math/rand"
	"slices"
	"strings"
	"testing"

	"turnpike/api"
	"turnpike/emit"
	"turnpike/tree"
)

// isBack: whether a list is the tree, its scalars quoted where that one's are.
func isBack(got, want []api.Node) bool {
	return emit.Same(got, want) && slices.EqualFunc(got, want, func(a, b api.Node) bool { return a.Quoted == b.Quoted })
}

// wantBack: layer 9 reads the tree's text as one document, which is the same tree; of a text that is empty as none.
func wantBack(t *testing.T, l, want []api.Node) {
	t.Helper()
	s, e := emit.Emit(l)
	trees, f := tree.Parse([]byte(s))
	if e != api.OK || f != (api.Fault{}) {
		t.Fatalf("%s: %.200q, %d, %v", told(l), s, int(e), f)
	}
	if s == "" {
		if len(trees) != 0 || len(l) != 1 {
			t.Fatalf("%s has no text", told(l))
		}
		return
	}
	if len(trees) != 1 || !isBack(trees[0], want) {
		t.Fatalf("%s: %.200q: %s", told(l), s, told(slices.Concat(trees...)))
	}
}

// P10.4: any trees.
func TestThereAndBack(t *testing.T) {
	r := rand.New(rand.NewSource(2))
	for range 10000 {
		l := anyTree(r, r.Intn(60), false)
		wantBack(t, l, l)
	}
}

// P10.4: every key and every scalar, in each place.
func TestEachThereAndBack(t *testing.T) {
	for _, n := range someScalars() {
		for _, m := range someScalars() {
			for _, l := range [][]api.Node{{n}, seqOf(n, m), mapOf(under("a", n), under("b", m))} {
				wantBack(t, l, l)
			}
		}
		for _, key := range someKeys() {
			var p plant
			p.hang(-1, aMap())
			p.hang(p.hang(0, under(key, aMap())), under(key, n))
			p.hang(p.hang(p.hang(0, under("next", aSeq())), aMap()), under(key, n))
			p.hang(p.hang(0, under("last", aSeq())), n)
			wantBack(t, p.nodes, p.nodes)
		}
	}
}

// P10.4: the greatest trees.
func TestGreatThereAndBack(t *testing.T) {
	for _, l := range [][]api.Node{chain(15, api.Seq), chain(15, api.Map), seqOf(slices.Repeat([]api.Node{quoted("-")}, 4095)...), {scalar(strings.Repeat("x", 65535))}, mapOf(under(strings.Repeat("x y", 20000), quoted("")))} {
		wantBack(t, l, l)
	}
}

// P10.4: of a tree whose nodes stand in another order, layer 9 tells the same one with its nodes as they are written.
func TestLooseTreesThereAndBack(t *testing.T) {
	r := rand.New(rand.NewSource(3))
	moved := 0
	for range 5000 {
		l := anyTree(r, r.Intn(40), true)
		ordered := inOrder(l, 0)
		if !emit.Same(l, ordered) {
			moved++
		}
		wantBack(t, l, ordered)
	}
	if moved < 1000 {
		t.Errorf("%d were in another order", moved)
	}
}

// anyText: lines that may be a document's, written in ways of their own.
func anyText(r *rand.Rand) string {
	heads := []string{"a: x", "b:", "c: 'q'", "\"\": y", "\"d e\": \"\\x00\"", "-", "- x", "- - y", "- a: z", "- 'q'", "x", "'a: b'", "- f:", "'g':  # so"}
	var b strings.Builder
	for range 1 + r.Intn(7) {
		b.WriteString(strings.Repeat(" ", r.Intn(3)*r.Intn(3)) + heads[r.Intn(len(heads))] + "\n")
	}
	return b.String()
}

// P10.1, P10.4: what layer 9 reads is a tree, and its text is the one that all texts of the same tree have.
func TestTreesOfTexts(t *testing.T) {
	r := rand.New(rand.NewSource(4))
	seen, others := 0, 0
	for range 60000 {
		s := anyText(r)
		trees, f := tree.Parse([]byte(s))
		if f != (api.Fault{}) {
			continue
		}
		for _, l := range trees {
			wantBack(t, l, l)
			text, _ := emit.Emit(l)
			again, e := emit.Emit(treeOf(t, text))
			if again != text || e != api.OK {
				t.Fatalf("%q: %q, then %q", s, text, again)
			}
			seen++
			if text != s {
				others++
			}
		}
	}
	if seen < 3000 || others < 1000 {
		t.Errorf("%d trees, %d with another text", seen, others)
	}
}
