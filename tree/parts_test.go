package tree_test

import (
	"math"
	"math/rand"
	"slices"
	"strconv"
	"strings"
	"testing"

	"turnpike/api"
	"turnpike/tree"
)

// shape: the parents of a list's nodes and their depths, the root's parent being -1; false, if it is no tree as the chapter words it.
func shape(l []api.Node) (parents, depths []int, is bool) {
	if len(l) < 1 || len(l) > 4096 || l[0].Key != "" {
		return nil, nil, false
	}
	parents, depths, sizes := make([]int, len(l)), make([]int, len(l)), make([]int, len(l))
	for i := range parents {
		parents[i] = -1
	}
	for i, n := range l {
		keys := map[string]int{}
		for _, k := range n.Kids {
			if k <= i || k >= len(l) || parents[k] >= 0 || n.Kind != api.Map && l[k].Key != "" {
				return nil, nil, false
			}
			parents[k] = i
			keys[l[k].Key]++
		}
		alone := n.Kind == api.Scalar && len(n.Kids) == 0
		above := (n.Kind == api.Map && len(keys) == len(n.Kids) || n.Kind == api.Seq) && len(n.Kids) > 0 && n.Text == "" && !n.Quoted
		if !alone && !above || n.Line < 0 || i > 0 && parents[i] < 0 {
			return nil, nil, false
		}
		depths[i] = 1
		if i > 0 {
			depths[i] = depths[parents[i]] + 1
		}
		if depths[i] > 16 {
			return nil, nil, false
		}
	}
	for i := len(l) - 1; i >= 0; i-- {
		sizes[i] = 1
		for _, k := range l[i].Kids {
			if k != i+sizes[i] {
				return nil, nil, false
			}
			sizes[i] += sizes[k]
		}
	}
	return parents, depths, true
}

// wantShape: May, Depth and Sub answer what the list's shape says, at all places; whether it is a tree.
func wantShape(t *testing.T, l []api.Node) bool {
	t.Helper()
	parents, depths, is := shape(l)
	depth := 0
	if is {
		depth = slices.Max(depths)
	}
	if tree.May(l) != is || tree.Depth(l) != depth {
		t.Fatalf("%v: %v, %d, want %v, %d", l, tree.May(l), tree.Depth(l), is, depth)
	}
	for at := -2; at < len(l)+2; at++ {
		var want []api.Node
		if is && at >= 0 && at < len(l) {
			want = below(l, parents, at)
		}
		if got := tree.Sub(l, at); !sameTree(got, want) {
			t.Fatalf("Sub(%v, %d): %v, want %v", l, at, got, want)
		}
	}
	return is
}

// below: the nodes that a node is above of, and it, numbered anew.
func below(l []api.Node, parents []int, at int) []api.Node {
	numbers := map[int]int{}
	var part []api.Node
	for i, n := range l {
		up := i
		for up > at {
			up = parents[up]
		}
		if up == at {
			numbers[i] = len(part)
			part = append(part, n)
		}
	}
	part[0].Key = ""
	for i := range part {
		kids := slices.Clone(part[i].Kids)
		for j := range kids {
			kids[j] = numbers[kids[j]]
		}
		part[i].Kids = kids
	}
	return part
}

// P9.3, P9.4: every list of few nodes.
func TestEveryShortTree(t *testing.T) {
	trees := 0
	try := func(l ...api.Node) {
		if wantShape(t, l) {
			trees++
		}
	}
	var some, fewer []api.Node
	for _, kids := range [][]int{nil, {1}, {2}, {1, 2}, {2, 1}, {0}, {1, 1}, {2, 2}, {3}, {-1}, {1, 3}} {
		for kind := range 5 {
			for _, key := range []string{"", "a"} {
				n := api.Node{Kind: kind, Key: key, Kids: kids}
				if kind >= 1 && kind <= 3 {
					fewer = append(fewer, n)
				}
				some = append(some, n)
				n.Text = "x"
				some = append(some, n)
				n.Text, n.Quoted = "", true
				some = append(some, n)
				n.Quoted, n.Line = false, -1
				some = append(some, n)
			}
		}
	}
	try()
	for _, a := range some {
		try(a)
		for _, b := range some {
			try(a, b)
		}
	}
	for _, a := range fewer {
		for _, b := range fewer {
			for _, c := range fewer {
				try(a, b, c)
			}
		}
	}
	if trees < 20 {
		t.Errorf("%d trees", trees)
	}
}

// P9.3: what single thing makes a list no tree.
func TestMay(t *testing.T) {
	whole := func() []api.Node {
		return nodes(mapOf(1, under("a", text(1, "x")), under("", seq(2, text(2, "y"), none(3), mapOf(4, under("a", quoted(4, "")), under("b", none(5))))), under("c", none(6))))
	}
	if !wantShape(t, whole()) || tree.Depth(whole()) != 4 {
		t.Fatal("the whole")
	}
	for i, spoil := range []func(l []api.Node){
		func(l []api.Node) { l[0].Key = "a" },
		func(l []api.Node) { l[0].Text = "a" },
		func(l []api.Node) { l[0].Quoted = true },
		func(l []api.Node) { l[0].Line = -1 },
		func(l []api.Node) { l[0].Kind = api.Seq },
		func(l []api.Node) { l[0].Kind = 4 },
		func(l []api.Node) { l[0].Kids = l[0].Kids[:2] },
		func(l []api.Node) { l[0].Kids = []int{1, 8, 2} },
		func(l []api.Node) { l[0].Kids = []int{1, 2, 3, 8} },
		func(l []api.Node) { l[0].Kids = append(l[0].Kids, 9) },
		func(l []api.Node) { l[0].Kids = append(l[0].Kids, 8) },
		func(l []api.Node) { l[0].Kids = append(l[0].Kids, math.MaxInt) },
		func(l []api.Node) { l[0].Kids[0] = math.MinInt },
		func(l []api.Node) { l[1].Kind = 0 },
		func(l []api.Node) { l[1].Kind = api.Map },
		func(l []api.Node) { l[1].Kids = []int{2} },
		func(l []api.Node) { l[1].Key = "c" },
		func(l []api.Node) { l[1].Key = "" },
		func(l []api.Node) { l[2].Quoted = true },
		func(l []api.Node) { l[2].Kids = nil },
		func(l []api.Node) { l[3].Key = "k" },
		func(l []api.Node) { l[5].Key = "k" },
		func(l []api.Node) { l[5].Kids = []int{7, 6} },
		func(l []api.Node) { l[5].Kids = []int{6} },
		func(l []api.Node) { l[5].Kind = api.Seq },
		func(l []api.Node) { l[7].Key = "a" },
		func(l []api.Node) { l[8].Line = math.MinInt },
		func(l []api.Node) { l[8].Kids = []int{8} },
		func(l []api.Node) { l[8].Kids = []int{0} },
	} {
		l := whole()
		spoil(l)
		if wantShape(t, l) {
			t.Errorf("%d: %v may be", i, l)
		}
	}
	for i, mend := range []func(l []api.Node){
		func(l []api.Node) { l[0].Line = 0 },
		func(l []api.Node) { l[0].Line = math.MaxInt },
		func(l []api.Node) { l[1].Text, l[1].Quoted = "a: *\x00\n", false },
		func(l []api.Node) { l[1].Key = strings.Repeat("k", 1000) },
		func(l []api.Node) { l[1].Kids = []int{} },
		func(l []api.Node) { l[7].Key = "A" },
	} {
		l := whole()
		mend(l)
		if !wantShape(t, l) {
			t.Errorf("%d: %v may not be", i, l)
		}
	}
}

// chain: so many sequences one in another, a scalar in the last.
func chain(n int) *part {
	p := text(1, "x")
	for range n {
		p = seq(1, p)
	}
	return p
}

// wide: a map of so many scalars.
func wide(n int) []api.Node {
	p := mapOf(1)
	for i := range n {
		p.kids = append(p.kids, under(strconv.Itoa(i), none(1)))
	}
	return nodes(p)
}

// P9.3: the bounds of a tree's depth and of how many nodes it has.
func TestBounds(t *testing.T) {
	for n := range 30 {
		l := nodes(chain(n))
		if wantShape(t, l) != (n < 16) {
			t.Errorf("%d deep", n+1)
		}
	}
	if !wantShape(t, nodes(seq(1, chain(3), text(1, ""), chain(14), chain(2)))) || wantShape(t, nodes(seq(1, chain(3), text(1, ""), chain(15)))) {
		t.Error("the deepest is not the last, nor the first")
	}
	var steep []api.Node
	for i := range 4000 {
		steep = append(steep, api.Node{Kind: api.Seq, Kids: []int{i + 1}})
	}
	if tree.May(append(steep, api.Node{Kind: api.Scalar})) {
		t.Error("four thousand deep")
	}
	most := wide(4095)
	if !tree.May(most) || tree.Depth(most) != 2 || !sameTree(tree.Sub(most, 0), most) || !sameTree(tree.Sub(most, 4095), nodes(none(1))) {
		t.Error("as many as may be")
	}
	over := wide(4096)
	if tree.May(over) || tree.Depth(over) != 0 || len(tree.Sub(over, 0)) != 0 || len(tree.Sub(over, 4096)) != 0 {
		t.Error("one more than may be")
	}
	long := []api.Node{{Kind: api.Seq, Kids: slices.Repeat([]int{1}, 1<<20)}, {Kind: api.Scalar}}
	if tree.May(long) {
		t.Error("a million kids")
	}
	if tree.May(make([]api.Node, 1<<20)) || tree.May(slices.Repeat([]api.Node{{Kind: api.Scalar}}, 4096)) {
		t.Error("many roots")
	}
}

// wantGet: what Get answers.
func wantGet(t *testing.T, l []api.Node, at int, key string, number int, is bool) {
	t.Helper()
	if n, ok := tree.Get(l, at, key); n != number || ok != is {
		t.Errorf("Get(%v, %d, %q): %d, %v, want %d, %v", l, at, key, n, ok, number, is)
	}
}

// P9.4: what stands under a key, of maps alone.
func TestGet(t *testing.T) {
	l := nodes(mapOf(1, under("a", text(1, "x")), under("", seq(2, text(2, "y"), mapOf(4, under("a", quoted(4, "")), under("b", none(5))))), under("c", none(6))))
	wantGet(t, l, 0, "a", 1, true)
	wantGet(t, l, 0, "", 2, true)
	wantGet(t, l, 0, "c", 7, true)
	wantGet(t, l, 4, "a", 5, true)
	wantGet(t, l, 4, "b", 6, true)
	for _, key := range []string{"b", "A", "a ", "x", "aa", "\x00"} {
		wantGet(t, l, 0, key, 0, false)
	}
	wantGet(t, l, 4, "", 0, false)
	wantGet(t, l, 4, "c", 0, false)
	for _, at := range []int{1, 2, 3, 5, 6, 7, 8, 9, -1, math.MaxInt, math.MinInt} {
		for _, key := range []string{"", "a", "b", "c"} {
			wantGet(t, l, at, key, 0, false)
		}
	}
	wantGet(t, nil, 0, "", 0, false)
	wantGet(t, []api.Node{}, 0, "a", 0, false)
	wantGet(t, nodes(text(1, "x")), 0, "", 0, false)
}

// P9.4, P0.1: lists that are no trees are looked at as they are: a kid that is not in the list is none.
func TestGetOfNoTrees(t *testing.T) {
	odd := []api.Node{{Kind: api.Map, Key: "r", Kids: []int{-1, 7, math.MinInt, math.MaxInt, 2, 1, 1, 0}}, {Kind: 9, Key: "a", Line: -4}, {Kind: api.Map, Key: "b"}}
	wantGet(t, odd, 0, "a", 1, true)
	wantGet(t, odd, 0, "b", 2, true)
	wantGet(t, odd, 0, "c", 0, false)
	wantGet(t, odd, 0, "", 0, false)
	wantGet(t, odd, 1, "a", 0, false)
	wantGet(t, odd, 2, "b", 0, false)
	wantGet(t, odd, 3, "a", 0, false)
	if tree.May(odd) || len(tree.Sub(odd, 1)) != 0 {
		t.Error("it is a tree")
	}
}

// P9.4: a part has its lines, its root no key.
func TestSub(t *testing.T) {
	inner := func() *part { return mapOf(4, under("a", quoted(4, "")), under("b", none(5))) }
	list := func() *part { return seq(2, text(2, "y"), inner(), none(6)) }
	l := nodes(mapOf(1, under("a", text(1, "x")), under("l", list()), under("c", none(7))))
	for at, want := range []*part{mapOf(1, under("a", text(1, "x")), under("l", list()), under("c", none(7))), text(1, "x"), list(), text(2, "y"), inner(), quoted(4, ""), none(5), none(6), none(7)} {
		if got := tree.Sub(l, at); !sameTree(got, nodes(want)) {
			t.Errorf("Sub at %d: %v, want %v", at, got, nodes(want))
		}
	}
	for _, at := range []int{-1, 9, 10, math.MaxInt, math.MinInt} {
		if got := tree.Sub(l, at); len(got) != 0 {
			t.Errorf("Sub at %d: %v", at, got)
		}
	}
	if len(tree.Sub(nil, 0)) != 0 || len(tree.Sub([]api.Node{}, 0)) != 0 {
		t.Error("Sub of nothing")
	}
}

// anyPart: a tree of at most so many levels.
func anyPart(r *rand.Rand, levels int) *part {
	kids := 1 + r.Intn(3)
	switch x := r.Intn(5); {
	case x == 0 || levels == 1:
		return &part{node: api.Node{Kind: api.Scalar, Text: strings.Repeat("t", r.Intn(3)), Quoted: r.Intn(2) == 0, Line: r.Intn(9)}}
	case x < 3:
		p := seq(r.Intn(9))
		for range kids {
			p.kids = append(p.kids, anyPart(r, levels-1))
		}
		return p
	}
	p := mapOf(r.Intn(9))
	for _, i := range r.Perm(4)[:kids] {
		p.kids = append(p.kids, under(strings.Repeat("k", i), anyPart(r, levels-1)))
	}
	return p
}

// spoil changes one thing of a list, or nothing that matters.
func spoil(r *rand.Rand, l []api.Node) []api.Node {
	n := &l[r.Intn(len(l))]
	kids := slices.Clone(n.Kids)
	switch r.Intn(12) {
	case 0:
		n.Kind = r.Intn(5)
	case 1:
		n.Key = strings.Repeat("k", r.Intn(4))
	case 2:
		n.Text = strings.Repeat("t", r.Intn(2))
	case 3:
		n.Quoted = !n.Quoted
	case 4:
		n.Line = r.Intn(4) - 2
	case 5:
		kids = append(kids, r.Intn(len(l)+2)-1)
	case 6:
		if len(kids) > 0 {
			kids[r.Intn(len(kids))] = r.Intn(len(l)+2) - 1
		}
	case 7:
		if len(kids) > 0 {
			kids = kids[1:]
		}
	case 8:
		r.Shuffle(len(kids), func(i, j int) { kids[i], kids[j] = kids[j], kids[i] })
	case 9:
		l = append(l, l[r.Intn(len(l))])
		return l
	case 10:
		return l[:len(l)-1]
	case 11:
		i, j := r.Intn(len(l)), r.Intn(len(l))
		l[i], l[j] = l[j], l[i]
		return l
	}
	n.Kids = kids
	return l
}

// P9.3, P9.4: any trees, and lists that are nearly some.
func TestAnyTrees(t *testing.T) {
	r := rand.New(rand.NewSource(5))
	trees, others := 0, 0
	for range 6000 {
		l := nodes(anyPart(r, 1+r.Intn(6)))
		if len(l) > 60 {
			continue
		}
		if !wantShape(t, l) {
			t.Fatalf("%v may not be", l)
		}
		for range 3 {
			spoilt := spoil(r, slices.Clone(l))
			if wantShape(t, spoilt) {
				trees++
			} else {
				others++
			}
		}
	}
	if trees < 1000 || others < 1000 {
		t.Errorf("%d trees, %d others", trees, others)
	}
}
