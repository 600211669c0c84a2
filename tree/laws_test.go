package tree_test

import (
	"math/rand"
	"slices"
	"testing"

	"turnpike/api"
	"turnpike/lines"
	"turnpike/tree"
)

// someTokens: lists of all sorts, most of them of one document or more that are right.
func someTokens(r *rand.Rand) []lines.Token {
	switch r.Intn(4) {
	case 0:
		return wildTokens(r, 10)
	case 1:
		return deepTokens(r)
	}
	return anyTokens(r, 25)
}

// changed: the tokens, each of them changed.
func changed(l []lines.Token, change func(*lines.Token)) []lines.Token {
	l = slices.Clone(l)
	for i := range l {
		change(&l[i])
	}
	return l
}

// texts: the keys and the scalars' texts of a tree, in the order of its nodes. (Tokens of scalars have a text here, or are quoted: no other scalar is like them.)
func texts(l []api.Node) []string {
	parents, _, _ := shape(l)
	var s []string
	for i, n := range l {
		if i > 0 && l[parents[i]].Kind == api.Map {
			s = append(s, "key "+n.Key)
		}
		if n.Kind == api.Scalar && (n.Text != "" || n.Quoted) {
			s = append(s, "text "+n.Text)
		}
	}
	return s
}

// P9.5: each tree may be, and has just its document's keys and scalars, in their order.
func TestTreesHaveWhatTheirDocumentsHave(t *testing.T) {
	r := rand.New(rand.NewSource(6))
	seen := 0
	for range 8000 {
		l := changed(someTokens(r), func(x *lines.Token) { x.Line += 2 })
		trees, f := tree.Of(l)
		if f != (api.Fault{}) {
			continue
		}
		var want []string
		for _, x := range l {
			switch x.Kind {
			case lines.Key:
				want = append(want, "key "+x.Text)
			case lines.Scalar:
				want = append(want, "text "+x.Text)
			}
		}
		var got []string
		for _, n := range trees {
			if !tree.May(n) {
				t.Fatalf("%v: may not be: %v", l, n)
			}
			got = append(got, texts(n)...)
			seen++
		}
		if !slices.Equal(got, want) {
			t.Fatalf("%v: %q, want %q", l, got, want)
		}
	}
	if seen < 1000 {
		t.Errorf("%d trees", seen)
	}
	// Of a line below 0 the tree is told, and may not be.
	if trees, f := tree.Of([]lines.Token{textAt(-1, 0, "x")}); f != (api.Fault{}) || len(trees) != 1 || tree.May(trees[0]) {
		t.Errorf("a line below 0: %v, %v", trees, f)
	}
}

// P9.6: more to the right, lower, and behind another document.
func TestTreesElsewhere(t *testing.T) {
	r := rand.New(rand.NewSource(7))
	right, wrong := 0, 0
	for range 4000 {
		l := someTokens(r)
		trees, f := tree.Of(l)
		got, g := tree.Of(changed(l, func(x *lines.Token) { x.Col += 7 }))
		if g != f || !sameTrees(got, trees) {
			t.Fatalf("more to the right: %v: %v, %v, want %v, %v", l, got, g, trees, f)
		}
		got, g = tree.Of(append([]lines.Token{textAt(1, 0, "x"), docAt(2)}, l...))
		want, wantFault := slices.Insert(slices.Clone(trees), 0, nodes(text(1, "x"))), f
		if f != (api.Fault{}) {
			want, wantFault.Doc = nil, f.Doc+1
		}
		if g != wantFault || !sameTrees(got, want) {
			t.Fatalf("behind another: %v: %v, %v, want %v, %v", l, got, g, want, wantFault)
		}
		got, g = tree.Of(changed(l, func(x *lines.Token) { x.Line += 100 }))
		for _, lower := range trees {
			for i := range lower {
				lower[i].Line += 100
			}
		}
		if f != (api.Fault{}) {
			f.Line += 100
			wrong++
		} else {
			right++
		}
		if g != f || !sameTrees(got, trees) {
			t.Fatalf("lower: %v: %v, %v, want %v, %v", l, got, g, trees, f)
		}
	}
	if right < 500 || wrong < 500 {
		t.Errorf("%d right, %d wrong", right, wrong)
	}
}

// P9.7: each part of a tree is one, as deep as it was below there, and has under its keys what it had.
func TestPartsOfTrees(t *testing.T) {
	r := rand.New(rand.NewSource(8))
	found := 0
	for range 3000 {
		trees, _ := tree.Of(changed(someTokens(r), func(x *lines.Token) { x.Line += 2 }))
		trees = append(trees, nodes(anyPart(r, 4)))
		for _, l := range trees {
			for at := range l {
				found += wantPart(t, l, at)
			}
		}
	}
	if found < 5000 {
		t.Errorf("%d keys", found)
	}
}

// wantPart: the part of a tree at that place is as it must be; how many keys were found in it.
func wantPart(t *testing.T, l []api.Node, at int) int {
	t.Helper()
	_, depths, is := shape(l)
	part := tree.Sub(l, at)
	if !is || !tree.May(part) || part[0].Key != "" || part[0].Line != l[at].Line {
		t.Fatalf("%v at %d: %v", l, at, part)
	}
	if deepest := slices.Max(depths[at : at+len(part)]); tree.Depth(part) != deepest-depths[at]+1 {
		t.Fatalf("%v at %d: %v has the depth %d", l, at, part, tree.Depth(part))
	}
	found := 0
	for i := range part {
		for _, n := range l {
			k, ok := tree.Get(part, i, n.Key)
			whole, is := tree.Get(l, at+i, n.Key)
			if ok != is || ok && k+at != whole || !ok && k != 0 {
				t.Fatalf("%v at %d: Get(%d, %q): %d, %v, of the whole %d, %v", l, at, i, n.Key, k, ok, whole, is)
			}
			if ok {
				found++
			}
		}
	}
	return found
}
