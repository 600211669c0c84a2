package tree_test

import (
	"math/rand"
	"strings"
	"testing"

	"turnpike/api"
	"turnpike/lines"
	"turnpike/tree"
)

// open is a map or a sequence that may still go on, in the model.
type open struct {
	part *part
	kind int
	col  int
}

// model reads token by token, with the blocks that are open in a list, and without calling itself.
type model struct {
	roots []*part
	open  []open
	count int
	wait  *lines.Token // a key or an item whose value is not told yet
	fault api.Fault
}

func (m *model) wrong(t lines.Token, e api.Errno) {
	if m.fault == (api.Fault{}) {
		m.fault = api.Fault{Doc: len(m.roots) - 1, Line: t.Line, Err: e}
	}
}

// add hangs a node that is begun with t under what is open.
func (m *model) add(t lines.Token, n api.Node) *part {
	m.count++
	if len(m.open) >= 16 || m.count > 4096 {
		m.wrong(t, api.ErrDeep)
	}
	n.Line = t.Line
	p := &part{node: n}
	if len(m.open) == 0 {
		m.roots[len(m.roots)-1] = p
		return p
	}
	top := m.open[len(m.open)-1].part
	if top.node.Kind == api.Map {
		p.node.Key = m.wait.Text
	}
	top.kids = append(top.kids, p)
	return p
}

func (m *model) block(t lines.Token) {
	switch t.Kind {
	case lines.Scalar:
		m.add(t, api.Node{Kind: api.Scalar, Text: t.Text, Quoted: t.Quoted})
		m.wait = nil
	case lines.Key:
		m.open = append(m.open, open{m.add(t, api.Node{Kind: api.Map}), t.Kind, t.Col})
		m.wait = &t
	case lines.Item:
		m.open = append(m.open, open{m.add(t, api.Node{Kind: api.Seq}), t.Kind, t.Col})
		m.wait = &t
	default:
		m.wrong(t, api.ErrTree)
	}
}

// settle: what waits gets a scalar without a token.
func (m *model) settle() {
	if m.wait != nil {
		m.add(*m.wait, api.Node{Kind: api.Scalar})
		m.wait = nil
	}
}

// takes: the chapter's words on the value of a key and of an item.
func takes(of, t lines.Token) bool {
	if t.Kind != lines.Key && t.Kind != lines.Item && t.Kind != lines.Scalar {
		return false
	}
	if of.Kind == lines.Item {
		return t.Line == of.Line || t.Col > of.Col
	}
	return t.Kind == lines.Scalar && t.Line == of.Line || t.Line != of.Line && (t.Col > of.Col || t.Kind == lines.Item && t.Col == of.Col)
}

// follow: t, which is nobody's value, goes on with a block that is open, and ends those within it.
func (m *model) follow(t lines.Token) {
	for len(m.open) > 0 {
		top := m.open[len(m.open)-1]
		if top.kind != t.Kind || top.col != t.Col {
			m.open = m.open[:len(m.open)-1]
			continue
		}
		for _, kid := range top.part.kids {
			if t.Kind == lines.Key && kid.node.Key == t.Text {
				m.wrong(t, api.ErrTwice)
			}
		}
		m.wait = &t
		return
	}
	m.wrong(t, api.ErrTree)
}

func (m *model) token(t lines.Token, first bool) {
	switch {
	case t.Kind == lines.Doc:
		m.settle()
	case first:
		m.roots, m.open, m.count = append(m.roots, nil), nil, 0
		m.block(t)
	case m.wait != nil && takes(*m.wait, t):
		m.block(t)
	default:
		m.settle()
		m.follow(t)
	}
}

// modelOf: what Of answers.
func modelOf(tokens []lines.Token) ([][]api.Node, api.Fault) {
	m := model{}
	for i, t := range tokens {
		m.token(t, i == 0 || tokens[i-1].Kind == lines.Doc)
		if m.fault != (api.Fault{}) {
			return nil, m.fault
		}
	}
	m.settle()
	if m.fault != (api.Fault{}) {
		return nil, m.fault
	}
	var trees [][]api.Node
	for _, p := range m.roots {
		trees = append(trees, nodes(p))
	}
	return trees, api.Fault{}
}

// wantModel: Of answers what the model does; whether there is no fault.
func wantModel(t *testing.T, tokens []lines.Token) bool {
	t.Helper()
	want, wantFault := modelOf(tokens)
	got, f := tree.Of(tokens)
	if f != wantFault || !sameTrees(got, want) {
		t.Fatalf("%v: %v, %v, want %v, %v", tokens, got, f, want, wantFault)
	}
	return f == (api.Fault{})
}

// choices: tokens of all kinds, in two columns, on the line of the one ahead (Line 0) or a later one (Line 1).
func choices() []lines.Token {
	l := []lines.Token{docAt(1), {Kind: 5, Line: 1}, {Kind: 0, Col: 1}}
	for line := range 2 {
		for col := range 2 {
			l = append(l, itemAt(line, col), keyAt(line, col, "a"), keyAt(line, col, "b"), textAt(line, col, "x"))
		}
	}
	return l
}

// Every short list of tokens.
func TestEveryShortList(t *testing.T) {
	all := choices()
	right := 0
	var longer func(l []lines.Token)
	longer = func(l []lines.Token) {
		if wantModel(t, l) {
			right++
		}
		if len(l) == 4 {
			return
		}
		line := 0
		if len(l) > 0 {
			line = l[len(l)-1].Line
		}
		for _, x := range all {
			x.Line += line
			longer(append(l[:len(l):len(l)], x))
		}
	}
	longer(nil)
	if right < 5000 {
		t.Errorf("%d right", right)
	}
}

func anyToken(r *rand.Rand, line, col int) lines.Token {
	switch x := r.Intn(40); {
	case x == 0:
		return docAt(line)
	case x == 1:
		return lines.Token{Kind: r.Intn(9) - 2, Line: line, Col: col, Text: "o", Quoted: true}
	case x < 14:
		return itemAt(line, col)
	case x < 28:
		return keyAt(line, col, string(rune('a'+r.Intn(12))))
	}
	return lines.Token{Kind: lines.Scalar, Line: line, Col: col, Text: string(rune('p' + r.Intn(4))), Quoted: r.Intn(2) == 0}
}

// anyTokens: token by token, most of them such that the model takes them.
func anyTokens(r *rand.Rand, n int) []lines.Token {
	var l []lines.Token
	line, col := 1, 0
	for range r.Intn(n) {
		for range 6 {
			x := anyToken(r, line+r.Intn(2), max(0, col+r.Intn(5)-2))
			if _, f := modelOf(append(l[:len(l):len(l)], x)); f != (api.Fault{}) && r.Intn(30) > 0 {
				continue
			}
			l = append(l, x)
			line, col = x.Line, x.Col
			break
		}
	}
	return l
}

// wildTokens: lines and columns as they come.
func wildTokens(r *rand.Rand, n int) []lines.Token {
	var l []lines.Token
	for range r.Intn(n) {
		l = append(l, anyToken(r, r.Intn(4)-1, r.Intn(5)-1))
	}
	return l
}

// Any lists of tokens.
func TestAnyTokens(t *testing.T) {
	r := rand.New(rand.NewSource(1))
	right, most := 0, 0
	for range 4000 {
		l := anyTokens(r, 60)
		if wantModel(t, l) {
			right++
			most = max(most, len(l))
		}
		for range 5 {
			wantModel(t, wildTokens(r, 12))
		}
	}
	if right < 1000 || most < 40 {
		t.Errorf("%d right, the longest of %d", right, most)
	}
}

// deepTokens: lists that mostly go deeper.
func deepTokens(r *rand.Rand) []lines.Token {
	var l []lines.Token
	line, col := 0, 0
	for range 12 + r.Intn(14) {
		line++
		x := anyToken(r, line, col)
		if x.Kind != lines.Key && r.Intn(8) > 0 {
			x = itemAt(line, col)
		}
		l = append(l, x)
		col = max(0, col+1-r.Intn(12)/11)
	}
	return l
}

// Lists that are about as deep as may be.
func TestDeepTokens(t *testing.T) {
	r := rand.New(rand.NewSource(2))
	faults := map[api.Errno]int{}
	depths := map[int]int{}
	for range 20000 {
		l := deepTokens(r)
		wantModel(t, l)
		trees, f := tree.Of(l)
		faults[f.Err]++
		if len(trees) > 0 {
			depths[tree.Depth(trees[0])]++
		}
	}
	if faults[api.ErrDeep] < 100 || faults[api.OK] < 100 || depths[16] < 10 {
		t.Errorf("%v, %v", faults, depths)
	}
}

// tail: a list that begins with an item and may stand behind other items; and how many nodes it makes.
func tail(r *rand.Rand) ([]lines.Token, int) {
	l, count := []lines.Token{itemAt(9000, 0), textAt(9000, 2, "x")}, 0
	for len(l) < 12 {
		more := append(l[:len(l):len(l)], anyToken(r, 9000+len(l)/2, r.Intn(4)))
		if trees, f := modelOf(more); f == (api.Fault{}) && len(trees) == 1 {
			l, count = more, len(trees[0])
		}
	}
	return l, count
}

// Lists that have about as many nodes as may be.
func TestManyAnyTokens(t *testing.T) {
	r := rand.New(rand.NewSource(3))
	faults := map[api.Errno]int{}
	for range 100 {
		end, count := tail(r)
		var l []lines.Token
		for line := range 4096 - count + r.Intn(10) - 1 {
			l = append(l, itemAt(line, 0), textAt(line, 2, "x"))
		}
		l = append(l, end...)
		wantModel(t, l)
		_, f := tree.Of(l)
		faults[f.Err]++
	}
	if faults[api.ErrDeep] < 10 || faults[api.OK] < 10 || len(faults) > 2 {
		t.Errorf("%v", faults)
	}
}

// Any texts: P9.1 by the words of lines' Scan and of Of.
func TestAnyTexts(t *testing.T) {
	r := rand.New(rand.NewSource(4))
	pieces := []string{"a: 1", "b:", "c:", "- ", "- x", "- d: 2", "- - y", "'q'", "---", "# so", "\"", "e: *", "\t", "z", "-", "\"\": 3"}
	right := 0
	for range 20000 {
		var b strings.Builder
		for range r.Intn(8) {
			b.WriteString(strings.Repeat(" ", r.Intn(6)/2) + pieces[r.Intn(len(pieces))] + "\n")
		}
		tokens, wantFault := lines.Scan([]byte(b.String()))
		var want [][]api.Node
		if wantFault == (api.Fault{}) {
			want, wantFault = modelOf(tokens)
		}
		got, f := tree.Parse([]byte(b.String()))
		if f != wantFault || !sameTrees(got, want) {
			t.Fatalf("%q: %v, %v, want %v, %v", b.String(), got, f, want, wantFault)
		}
		if f == (api.Fault{}) && len(got) > 0 {
			right++
		}
	}
	if right < 2000 {
		t.Errorf("%d right", right)
	}
}
