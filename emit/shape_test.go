package emit_test

import (
	"math"
	"math/rand"
	"slices"
	"strconv"
	"strings"
	"testing"

	"turnpike/api"
)

// everyList calls with each list of so many of the forms.
func everyList(forms []api.Node, size int, call func(l []api.Node)) {
	l := make([]api.Node, size)
	var fill func(at int)
	fill = func(at int) {
		if at == size {
			call(l)
			return
		}
		for _, n := range forms {
			l[at] = n
			fill(at + 1)
		}
	}
	fill(0)
}

// wantEvery: of each list of so many of the forms what the models say; so many of them at least are trees.
func wantEvery(t *testing.T, forms []api.Node, size, least int) {
	t.Helper()
	trees := 0
	everyList(forms, size, func(l []api.Node) {
		if wantModel(t, l) {
			trees++
		}
		if t.Failed() {
			t.FailNow()
		}
	})
	if trees < least {
		t.Errorf("%d trees of %d nodes", trees, size)
	}
}

// P10.1: every list of few nodes.
func TestEveryShortList(t *testing.T) {
	var some, fewer, whole []api.Node
	for _, kids := range [][]int{nil, {1}, {2}, {1, 2}, {2, 1}, {0}, {1, 1}, {2, 2}, {3}, {-1}, {1, 3}} {
		for kind := range 5 {
			for _, key := range []string{"", "a"} {
				n := api.Node{Kind: kind, Key: key, Kids: kids}
				if kind >= 1 && kind <= 3 {
					fewer = append(fewer, n)
				}
				some = append(some, n)
				n.Text = "x"
				some = append(some, n)
				n.Text = "*"
				some = append(some, n)
				n.Text, n.Quoted = "", true
				some = append(some, n)
				n.Quoted, n.Line = false, -1
				some = append(some, n)
			}
		}
	}
	for _, key := range []string{"", "a"} {
		whole = append(whole, under(key, scalar("x")))
		for _, kids := range [][]int{{1}, {2}, {3}, {1, 2}, {1, 3}, {2, 3}, {1, 2, 3}} {
			whole = append(whole, api.Node{Kind: api.Map, Key: key, Kids: kids}, api.Node{Kind: api.Seq, Key: key, Kids: kids})
		}
	}
	wantEvery(t, some, 0, 0)
	wantEvery(t, some, 1, 4)
	wantEvery(t, some, 2, 20)
	wantEvery(t, fewer, 3, 10)
	wantEvery(t, whole, 4, 50)
}

// P10.1: what single thing makes a list no tree.
func TestNoTrees(t *testing.T) {
	const text = "a: x\n\"\":\n  - y\n  -\n  - a: \"\"\n    b:\nc:\n"
	for i, spoil := range []func(l []api.Node){
		func(l []api.Node) { l[0].Key = "a" },
		func(l []api.Node) { l[0].Text = "a" },
		func(l []api.Node) { l[0].Quoted = true },
		func(l []api.Node) { l[0].Kind = api.Seq },
		func(l []api.Node) { l[0].Kind = api.Scalar },
		func(l []api.Node) { l[0].Kind = 4 },
		func(l []api.Node) { l[0].Kind = math.MinInt },
		func(l []api.Node) { l[0].Kids = l[0].Kids[:2] },
		func(l []api.Node) { l[0].Kids = []int{1, 8, 2} },
		func(l []api.Node) { l[0].Kids = []int{1, 2, 3, 8} },
		func(l []api.Node) { l[0].Kids = []int{0, 1, 2, 8} },
		func(l []api.Node) { l[0].Kids = append(l[0].Kids, 9) },
		func(l []api.Node) { l[0].Kids = append(l[0].Kids, 8) },
		func(l []api.Node) { l[0].Kids = append(l[0].Kids, math.MaxInt) },
		func(l []api.Node) { l[0].Kids[0] = math.MinInt },
		func(l []api.Node) { l[1].Kind = 0 },
		func(l []api.Node) { l[1].Kind = api.Map },
		func(l []api.Node) { l[1].Kids = []int{2} },
		func(l []api.Node) { l[1].Key = "c" },
		func(l []api.Node) { l[1].Key = "" },
		func(l []api.Node) { l[1].Text = "*" },
		func(l []api.Node) { l[2].Text = "a" },
		func(l []api.Node) { l[2].Quoted = true },
		func(l []api.Node) { l[2].Kids = nil },
		func(l []api.Node) { l[3].Key = "k" },
		func(l []api.Node) { l[3].Text = "y " },
		func(l []api.Node) { l[5].Key = "k" },
		func(l []api.Node) { l[5].Kids = []int{7, 6} },
		func(l []api.Node) { l[5].Kids = []int{6} },
		func(l []api.Node) { l[5].Kind = api.Seq },
		func(l []api.Node) { l[5].Kids = []int{2, 6, 7} },
		func(l []api.Node) { l[5].Kids = []int{5, 6, 7} },
		func(l []api.Node) { l[7].Key = "a" },
		func(l []api.Node) { l[8].Kids = []int{8} },
		func(l []api.Node) { l[8].Kids = []int{0} },
		func(l []api.Node) { l[8] = api.Node{Kind: api.Map, Key: "c", Kids: []int{7}} },
	} {
		l := treeOf(t, text)
		wantText(t, l, text)
		spoil(l)
		if wantModel(t, l) {
			t.Errorf("%d: %s is a tree", i, told(l))
		}
	}
	for _, l := range [][]api.Node{nil, {}, make([]api.Node, 1), make([]api.Node, 9), seqOf(), mapOf()} {
		wantError(t, l, api.ErrEmit)
	}
}

// P10.1: a tree's kids stand behind their parents, each list of them rises: no more is asked of their order.
func TestKidsAnywhere(t *testing.T) {
	var p plant
	p.hang(-1, aMap())
	p.hang(0, under("a", aSeq()))
	p.hang(0, under("b", aMap()))
	p.hang(2, under("c", scalar("x")))
	p.hang(1, aSeq())
	p.hang(2, under("d", scalar("y")))
	p.hang(4, scalar("z"))
	p.hang(0, under("e", scalar("")))
	p.hang(1, quoted("q"))
	wantText(t, p.nodes, lined("a:/  - - z/  - \"q\"/b:/  c: x/  d: y/e:/"))
}

// chain: so many maps, or sequences, one in another, a scalar in the last.
func chain(n, kind int) []api.Node {
	var p plant
	at := -1
	for range n {
		at = p.hang(at, api.Node{Kind: kind})
	}
	p.hang(at, scalar("x"))
	return p.nodes
}

// P10.1: how deep a tree may be.
func TestDepths(t *testing.T) {
	for n := range 40 {
		seqs, maps := chain(n, api.Seq), chain(n, api.Map)
		if n > 15 {
			wantError(t, seqs, api.ErrEmit)
			wantError(t, maps, api.ErrEmit)
			continue
		}
		wantText(t, seqs, strings.Repeat("- ", n)+"x\n")
		want := "x\n"
		for i := range n {
			sep := "\n"
			if i == 0 {
				sep = " "
			}
			want = strings.Repeat("  ", n-1-i) + "\"\":" + sep + want
		}
		wantText(t, maps, want)
	}
	steep := chain(4095, api.Seq)
	wantError(t, steep, api.ErrEmit)
	wantError(t, append(steep, scalar("x")), api.ErrEmit)
	var p plant
	last := p.hang(-1, aSeq())
	for range 14 {
		p.hang(last, scalar("x"))
		last = p.hang(last, aSeq())
		p.hang(last, scalar("y"))
		p.hang(0, scalar("z"))
	}
	if !wantModel(t, p.nodes) {
		t.Error("the deepest is in the midst, and 16 deep")
	}
	last = p.hang(last, aSeq())
	p.hang(last, scalar("x"))
	if wantModel(t, p.nodes) {
		t.Error("the deepest is 17 deep")
	}
}

// P10.1: how many nodes a tree may have.
func TestSizes(t *testing.T) {
	for _, n := range []int{4094, 4095, 4096, 4097, 9000} {
		seq, keys := seqOf(slices.Repeat([]api.Node{scalar("x")}, n)...), mapOf()
		want := ""
		for i := range n {
			keys = append(keys, under(strconv.Itoa(i), scalar("")))
			keys[0].Kids = append(keys[0].Kids, i+1)
			want += strconv.Itoa(i) + ":\n"
		}
		if n > 4095 {
			wantError(t, seq, api.ErrEmit)
			wantError(t, keys, api.ErrEmit)
			continue
		}
		wantText(t, seq, strings.Repeat("- x\n", n))
		wantText(t, keys, want)
		keys[n].Key = "0"
		wantError(t, keys, api.ErrEmit)
	}
	wantError(t, make([]api.Node, 1<<20), api.ErrEmit)
	wantError(t, slices.Repeat([]api.Node{scalar("x")}, 4096), api.ErrEmit)
	wantError(t, []api.Node{{Kind: api.Seq, Kids: slices.Repeat([]int{1}, 1<<20)}, scalar("x")}, api.ErrEmit)
	rising := make([]int, 1<<20)
	for i := range rising {
		rising[i] = i + 1
	}
	wantError(t, []api.Node{{Kind: api.Seq, Kids: rising}, scalar("x")}, api.ErrEmit)
}

// spoil changes one thing of a list, or nothing that matters.
func spoil(r *rand.Rand, l []api.Node) []api.Node {
	n := &l[r.Intn(len(l))]
	kids := slices.Clone(n.Kids)
	switch r.Intn(11) {
	case 0:
		n.Kind = r.Intn(5)
	case 1:
		n.Key = someKeys()[r.Intn(len(someKeys()))]
	case 2:
		n.Text = someKeys()[r.Intn(len(someKeys()))]
	case 3:
		n.Quoted = !n.Quoted
	case 4:
		kids = append(kids, r.Intn(len(l)+2)-1)
	case 5:
		if len(kids) > 0 {
			kids[r.Intn(len(kids))] = r.Intn(len(l)+2) - 1
		}
	case 6:
		if len(kids) > 0 {
			kids = kids[1:]
		}
	case 7:
		r.Shuffle(len(kids), func(i, j int) { kids[i], kids[j] = kids[j], kids[i] })
	case 8:
		return append(l, l[r.Intn(len(l))])
	case 9:
		return l[:len(l)-1]
	case 10:
		i, j := r.Intn(len(l)), r.Intn(len(l))
		l[i], l[j] = l[j], l[i]
		return l
	}
	n.Kids = kids
	return l
}

// P10.1: any trees, and lists that are nearly some.
func TestAnyLists(t *testing.T) {
	r := rand.New(rand.NewSource(1))
	trees, others := 0, 0
	for i := range 6000 {
		l := anyTree(r, r.Intn(40), i%2 == 0)
		if !wantModel(t, l) {
			t.Fatalf("%s is no tree", told(l))
		}
		for range 3 {
			if wantModel(t, spoil(r, slices.Clone(l))) {
				trees++
			} else {
				others++
			}
		}
		if t.Failed() {
			t.FailNow()
		}
	}
	if trees < 1000 || others < 1000 {
		t.Errorf("%d trees, %d others", trees, others)
	}
}
