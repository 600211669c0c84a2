package emit_test

import (
	"math"
	"math/rand"
	"slices"
	"strings"
	"testing"

	"turnpike/api"
	"turnpike/emit"
	"turnpike/tree"
)

func wantJoin(t *testing.T, want string, docs ...string) {
	t.Helper()
	if got := emit.Join(docs...); got != want {
		t.Errorf("Join of %d texts: %.200q, want %.200q", len(docs), got, want)
	}
}

// P10.2.
func TestJoin(t *testing.T) {
	wantJoin(t, lined("a: b/---/c/"), "a: b\n", "", "c\n")
	wantJoin(t, "")
	wantJoin(t, "", "")
	wantJoin(t, "", "", "", "")
	wantJoin(t, "a\n", "a\n")
	wantJoin(t, "a\n", "", "a\n", "")
	wantJoin(t, "a\n---\na\n---\na\n", "", "a\n", "", "", "a\n", "a\n", "")
	// Texts are any.
	wantJoin(t, "a---\nb", "a", "b")
	wantJoin(t, "\n---\n\n", "\n", "\n")
	wantJoin(t, "---\n---\n---\n", "---\n", "---\n")
	wantJoin(t, "\x00---\n\xff---\n ", "\x00", "\xff", " ")
	great := strings.Repeat("x", 65536)
	wantJoin(t, great+"---\n"+great, great, great)
	many := slices.Repeat([]string{"", "x\n"}, 10000)
	wantJoin(t, strings.TrimSuffix(strings.Repeat("x\n---\n", 10000), "---\n"), many...)
}

// P10.2, P10.4: layer 9 reads texts of trees that were joined as their trees, one by one.
func TestJoinedTexts(t *testing.T) {
	r := rand.New(rand.NewSource(5))
	for range 1000 {
		var docs []string
		var want [][]api.Node
		for range r.Intn(6) {
			l := anyTree(r, r.Intn(12), false)
			s, _ := emit.Emit(l)
			docs = append(docs, s)
			if s != "" {
				want = append(want, l)
			}
		}
		got, f := tree.Parse([]byte(emit.Join(docs...)))
		if f != (api.Fault{}) || !slices.EqualFunc(got, want, isBack) {
			t.Fatalf("%q: %s, %v", docs, told(slices.Concat(got...)), f)
		}
	}
}

func wantSame(t *testing.T, a, b []api.Node, want bool) {
	t.Helper()
	if emit.Same(a, b) != want || emit.Same(b, a) != want {
		t.Errorf("Same(%s, %s): %v", told(a), told(b), !want)
	}
}

// P10.3: what makes two lists unlike, and what does not; they may be no trees.
func TestSame(t *testing.T) {
	wantSame(t, nil, nil, true)
	wantSame(t, nil, []api.Node{}, true)
	wantSame(t, nil, []api.Node{{}}, false)
	wantSame(t, []api.Node{{}}, []api.Node{{Kids: []int{}}}, true)
	odd := []api.Node{{Kind: 7, Key: "k", Text: "t", Kids: []int{5, -1, 5}}, {Kind: api.Map, Kids: []int{0, math.MaxInt}}, {Kind: api.Scalar, Text: "*"}, {}}
	for _, l := range [][]api.Node{odd, treeOf(t, "a:\n  - x\n  - b: \"y\"\nc:\n"), {scalar("a")}, {{}}} {
		wantSame(t, l, slices.Clone(l), true)
		wantSame(t, l, nil, false)
		wantSame(t, l, l[:len(l)-1], false)
		wantSame(t, l, append(slices.Clone(l), l[0]), false)
		for at := range l {
			for i, change := range []func(n *api.Node){
				func(n *api.Node) { n.Line += 3 },
				func(n *api.Node) { n.Line = math.MinInt },
				func(n *api.Node) { n.Quoted = !n.Quoted },
				func(n *api.Node) { n.Kind++ },
				func(n *api.Node) { n.Kind = -n.Kind - 1 },
				func(n *api.Node) { n.Key += "k" },
				func(n *api.Node) { n.Text += " " },
				func(n *api.Node) { n.Key, n.Text = n.Text+"x", n.Key },
				func(n *api.Node) { n.Kids = append(slices.Clone(n.Kids), 1) },
				func(n *api.Node) { n.Kids = append([]int{-4}, n.Kids...) },
			} {
				other := slices.Clone(l)
				change(&other[at])
				wantSame(t, l, other, i < 3)
			}
		}
	}
	wantSame(t, []api.Node{{Kids: []int{1, 2}}}, []api.Node{{Kids: []int{2, 1}}}, false)
	wantSame(t, []api.Node{{Kids: []int{1, 2}}}, []api.Node{{Kids: []int{1, 3}}}, false)
	wantSame(t, []api.Node{scalar("a"), scalar("b")}, []api.Node{scalar("b"), scalar("a")}, false)
	wantSame(t, []api.Node{scalar("A")}, []api.Node{scalar("a")}, false)
}
