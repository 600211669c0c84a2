package tree_test

import (
	"runtime"
	"slices"
	"strings"
	"testing"
	"unsafe"

	"turnpike/api"
	"turnpike/lines"
	"turnpike/spare"
	"turnpike/tree"
)

// someTexts: right and wrong ones.
func someTexts() []string {
	return []string{"", "x", "a: 1\nb:\n- c: 'x'\n  d:\n- - y\n  - z\ne: 2\n---\n- 1\n-\n---\nq", "a: 1\na: 2", "- 1\nx", "\t", "a:\n---\n*", strings.Repeat("- ", 30), strings.Repeat("- - a: 1\n    b:\n", 600), strings.Repeat("x", api.MaxText+1)}
}

// cloned: trees in memory of their own, texts too.
func cloned(trees [][]api.Node) [][]api.Node {
	var l [][]api.Node
	for _, t := range trees {
		t = slices.Clone(t)
		for i := range t {
			t[i].Key, t[i].Text, t[i].Kids = strings.Clone(t[i].Key), strings.Clone(t[i].Text), slices.Clone(t[i].Kids)
		}
		l = append(l, t)
	}
	return l
}

// overwrite fills every list of trees, and the spare room behind it.
func overwrite(trees [][]api.Node) {
	for _, t := range trees {
		for _, n := range t {
			spare.Fill(n.Kids, -9)
		}
		spare.Fill(t, api.Node{Kind: 9})
	}
	spare.Fill(trees, nil)
}

// loose: the tokens of a text, their texts in memory that the test may change.
func loose(s string) (l []lines.Token, memory [][]byte) {
	l, _ = lines.Scan([]byte(s))
	for i := range l {
		b := []byte(l[i].Text)
		memory = append(memory, b)
		l[i].Text = unsafe.String(unsafe.SliceData(b), len(b))
	}
	return l, memory
}

// P9.8: a text and tokens are not changed, nor the spare room behind them; nor do they change what was answered.
func TestTextsAndTokens(t *testing.T) {
	for _, s := range someTexts() {
		want, wantFault := tree.Parse([]byte(s))
		want = cloned(want)
		list, all := spare.List([]byte(s), 0xa5)
		before := slices.Clone(all)
		got, _ := tree.Parse(list)
		other, _ := tree.Parse(list)
		overwrite(other)
		if !slices.Equal(all, before) {
			t.Errorf("%.40q was changed", s)
		}
		spare.Fill(list, '!')
		if !sameTrees(got, want) {
			t.Errorf("%.40q: the trees changed with the text, or with others", s)
		}
		scanned, memory := loose(s)
		tokens, allTokens := spare.List(scanned, lines.Token{Kind: lines.Item, Line: 77})
		kept := slices.Clone(allTokens)
		got, f := tree.Of(tokens)
		other, _ = tree.Of(tokens)
		overwrite(other)
		if !slices.Equal(allTokens, kept) {
			t.Errorf("%.40q: the tokens were changed", s)
		}
		for _, b := range memory {
			spare.Fill(b, '!')
		}
		spare.Fill(tokens, lines.Token{Kind: 9})
		if wantFault.Err < api.ErrTree && wantFault.Err != api.OK {
			continue // lines told no tokens
		}
		if f != wantFault || !sameTrees(got, want) {
			t.Errorf("%.40q: the trees changed with the tokens, or with others: %v, %v", s, got, f)
		}
	}
}

// P9.8: no two lists of one answer share memory.
func TestListsOfOneAnswer(t *testing.T) {
	for _, s := range someTexts() {
		trees, _ := tree.Parse([]byte(s))
		for i, l := range trees {
			want := cloned([][]api.Node{l})[0]
			for j := range trees {
				if j != i {
					overwrite(trees[j : j+1 : j+1])
				}
			}
			if !sameTree(l, want) {
				t.Errorf("%.40q: tree %d changed with the others", s, i)
			}
			wantOwnKids(t, l)
			trees, _ = tree.Parse([]byte(s))
		}
	}
}

// wantOwnKids: with the kids of one node overwritten, those of the others are as they were.
func wantOwnKids(t *testing.T, l []api.Node) {
	t.Helper()
	kept := cloned([][]api.Node{l})[0]
	for i := range l {
		spare.Fill(l[i].Kids, -9)
		for j := i + 1; j < len(l); j++ {
			if !slices.Equal(l[j].Kids, kept[j].Kids) {
				t.Fatalf("the kids of %d changed with those of %d", j, i)
			}
		}
	}
}

// P9.8: trees that are handed in are not changed, and Sub's answer shares nothing with them.
func TestTrees(t *testing.T) {
	for _, s := range someTexts() {
		trees, _ := tree.Parse([]byte(s))
		for _, l := range trees {
			for _, at := range []int{0, 1, len(l) / 2, len(l) - 1, len(l)} {
				wantSubAlone(t, l, at)
			}
		}
	}
}

func wantSubAlone(t *testing.T, l []api.Node, at int) {
	t.Helper()
	list, all := spare.List(cloned([][]api.Node{l})[0], api.Node{Kind: api.Scalar, Key: "spare"})
	var memory [][]byte
	for i := range list {
		kids, _ := spare.List(list[i].Kids, 1)
		b := []byte(list[i].Key + list[i].Text)
		n := len(list[i].Key)
		memory = append(memory, b)
		list[i].Kids = kids
		whole := unsafe.String(unsafe.SliceData(b), len(b))
		list[i].Key, list[i].Text = whole[:n], whole[n:]
	}
	before := cloned([][]api.Node{all})[0]
	tree.May(list)
	tree.Depth(list)
	tree.Get(list, 0, "b")
	got, other := tree.Sub(list, at), tree.Sub(list, at)
	overwrite([][]api.Node{other})
	if !sameTree(all, before) {
		t.Fatalf("%v was changed", before)
	}
	for i := range list {
		if kids := list[i].Kids; slices.ContainsFunc(kids[len(kids):cap(kids)], func(k int) bool { return k != 1 }) {
			t.Fatalf("the room behind the kids of %d was changed", i)
		}
		spare.Fill(list[i].Kids, -9)
		spare.Fill(memory[i], '!')
	}
	spare.Fill(list, api.Node{Kind: 9})
	if want := tree.Sub(l, at); !sameTree(got, want) {
		t.Fatalf("at %d: %v, want %v", at, got, want)
	}
	wantOwnKids(t, got)
}

func heap() int {
	var m runtime.MemStats
	runtime.GC()
	runtime.GC()
	runtime.ReadMemStats(&m)
	return int(m.HeapAlloc)
}

// P0.4: who keeps a tree, or a part of one, keeps no more than that.
func TestNothingMoreIsKept(t *testing.T) {
	scalar := strings.Repeat("x", 60000)
	var kept [][]api.Node
	var texts []string
	before := heap()
	for range 100 {
		trees, f := tree.Parse([]byte("small: a\nbig: " + scalar + "\n---\ny"))
		if f != (api.Fault{}) || len(trees) != 2 {
			t.Fatalf("%v", f)
		}
		kept = append(kept, tree.Sub(trees[0], 1), trees[1])
		texts = append(texts, trees[0][1].Key)
		big := strings.Repeat("z", 60000)
		trees, _ = tree.Of([]lines.Token{{Kind: lines.Key, Text: big[:3]}, {Kind: lines.Scalar, Text: big[3:6]}})
		kept = append(kept, trees...)
		kept = append(kept, tree.Sub([]api.Node{{Kind: api.Scalar, Text: big[:9], Kids: make([]int, 0, 9000)}}, 0))
	}
	if more := heap() - before; more > 1<<20 {
		t.Errorf("%d bytes more are kept", more)
	}
	runtime.KeepAlive(kept)
	runtime.KeepAlive(texts)
}
