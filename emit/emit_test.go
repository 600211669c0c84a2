package emit_test

import (
	"fmt"
	"slices"
	"strconv"
	"strings"
	"testing"

	"turnpike/api"
	"turnpike/emit"
	"turnpike/lines"
)

// plant is a tree that a test hangs together node by node, each in any place that is there already.
type plant struct {
	nodes []api.Node
}

// hang adds a node as the last kid of that parent, and tells its number; the root is nobody's kid: -1.
func (p *plant) hang(parent int, n api.Node) int {
	at := len(p.nodes)
	p.nodes = append(p.nodes, n)
	if parent >= 0 {
		p.nodes[parent].Kids = append(p.nodes[parent].Kids, at)
	}
	return at
}

func scalar(s string) api.Node { return api.Node{Kind: api.Scalar, Text: s} }
func quoted(s string) api.Node { return api.Node{Kind: api.Scalar, Text: s, Quoted: true} }
func aMap() api.Node           { return api.Node{Kind: api.Map} }
func aSeq() api.Node           { return api.Node{Kind: api.Seq} }

func under(key string, n api.Node) api.Node {
	n.Key = key
	return n
}

// mapOf, seqOf: trees of a root and its kids alone.
func mapOf(kids ...api.Node) []api.Node { return flat(aMap(), kids...) }
func seqOf(kids ...api.Node) []api.Node { return flat(aSeq(), kids...) }

func flat(root api.Node, kids ...api.Node) []api.Node {
	var p plant
	p.hang(-1, root)
	for _, n := range kids {
		p.hang(0, n)
	}
	return p.nodes
}

// told: a list as a failure tells it: no more of it than may be read.
func told(l []api.Node) string {
	var b strings.Builder
	for _, n := range l[:min(len(l), 12)] {
		fmt.Fprintf(&b, "{%d %.20q %.20q %v %v} ", n.Kind, n.Key, n.Text, n.Quoted, n.Kids[:min(len(n.Kids), 12)])
	}
	return b.String() + "of " + strconv.Itoa(len(l))
}

// wantText: Emit and May answer of a tree that it has this text.
func wantText(t *testing.T, l []api.Node, want string) {
	t.Helper()
	if got, e := emit.Emit(l); got != want || e != api.OK {
		t.Errorf("Emit(%s): %.200q, %d, want %.200q", told(l), got, int(e), want)
	}
	if e := emit.May(l); e != api.OK {
		t.Errorf("May(%s): %d", told(l), int(e))
	}
}

// wantError: Emit and May refuse the list with that error.
func wantError(t *testing.T, l []api.Node, want api.Errno) {
	t.Helper()
	if got, e := emit.Emit(l); got != "" || e != want {
		t.Errorf("Emit(%s): %.200q, %d, want %d", told(l), got, int(e), int(want))
	}
	if e := emit.May(l); e != want {
		t.Errorf("May(%s): %d, want %d", told(l), int(e), int(want))
	}
}

// lined: a text with its line ends written as /.
func lined(s string) string { return strings.ReplaceAll(s, "/", "\n") }

// P10.1: the chapter's examples.
func TestExamples(t *testing.T) {
	var p plant
	p.hang(-1, aMap())
	p.hang(0, under("kind", scalar("Service")))
	p.hang(0, under("endpoints", aSeq()))
	p.hang(2, scalar("a1"))
	p.hang(2, scalar("a2"))
	wantText(t, p.nodes, lined("kind: Service/endpoints:/  - a1/  - a2/"))

	p = plant{}
	p.hang(-1, aSeq())
	p.hang(0, aMap())
	p.hang(1, under("a", scalar("x")))
	p.hang(1, under("b", scalar("y")))
	p.hang(0, aSeq())
	p.hang(4, scalar("z"))
	wantText(t, p.nodes, lined("- a: x/  b: y/- - z/"))

	wantText(t, mapOf(under("a b", quoted("*"))), "\"a b\": \"*\"\n")
	for _, l := range [][]api.Node{{scalar("*")}, {aMap()}, {scalar("a"), scalar("b")}} {
		wantError(t, l, api.ErrEmit)
	}
}

// P10.1: a scalar as the root; one without a text has no line.
func TestScalarAsRoot(t *testing.T) {
	wantText(t, []api.Node{scalar("")}, "")
	wantText(t, []api.Node{scalar("a b")}, "a b\n")
	wantText(t, []api.Node{quoted("")}, "\"\"\n")
	wantText(t, []api.Node{quoted("a")}, "\"a\"\n")
	wantText(t, []api.Node{quoted("a\"\n\x00\xff")}, "\"a\\\"\\n\\x00\xff\"\n")
	wantText(t, []api.Node{{Kind: api.Scalar, Text: "x", Line: -7, Kids: []int{}}}, "x\n")
}

// P10.1: scalars without a text, and quoted ones without one, in maps and sequences.
func TestScalarsWithoutText(t *testing.T) {
	wantText(t, mapOf(under("a", scalar("")), under("b", quoted("")), under("c", scalar("x")), under("d", scalar(""))), "a:\nb: \"\"\nc: x\nd:\n")
	wantText(t, seqOf(scalar(""), quoted(""), scalar("x"), scalar("")), "-\n- \"\"\n- x\n-\n")
	var p plant
	p.hang(-1, aSeq())
	p.hang(p.hang(0, aMap()), under("a", scalar("")))
	p.hang(p.hang(0, aSeq()), scalar(""))
	wantText(t, p.nodes, "- a:\n- -\n")
}

// P10.1: maps and sequences within one another: how deep each line stands, and what begins on its parent's line.
func TestBlocksInBlocks(t *testing.T) {
	for _, want := range []string{
		"a:/  b:/    c:/      d: x/    e: y/  f:/g: z/",
		"a:/  - b:/      - c:/          - x/        d: y/  - z/e:/  - - - x/      -/    - y/  -/",
		"- a:/    b:/      - c: x/        d:/          e:/- - - f: x/      g:/        h: y/      i: z/    - -/  -/",
		"- - - - - x/        - y/      - z/    -/  -/-/",
		"a:/  - b: x/    c:/      - y/      - d:/  - e:/      f: z/",
	} {
		want = lined(want)
		wantText(t, treeOf(t, want), want)
	}
}

// P10.1: a key stands as it is, if it is 1 to MaxName letters of a name, else quoted.
func TestKeys(t *testing.T) {
	bare := "ABCDEFGHIJKLMNOPQRSTUVWXYZabcdefghijklmnopqrstuvwxyz0123456789_-."
	for c := range 256 {
		for _, key := range []string{string([]byte{byte(c)}), string([]byte{'k', byte(c)}), string([]byte{byte(c), 'k'})} {
			want := lines.Quote(key)
			if strings.Trim(key, bare) == "" {
				want = key
			}
			wantText(t, mapOf(under(key, scalar("x"))), want+": x\n")
			wantText(t, append(mapOf(under(key, api.Node{Kind: api.Seq, Kids: []int{2}})), scalar("x")), want+":\n  - x\n")
		}
	}
	for n := range 130 {
		key := strings.Repeat("k", n)
		want := key
		if n == 0 || n > 64 {
			want = "\"" + key + "\""
		}
		wantText(t, mapOf(under("a", scalar("")), under(key, scalar(""))), "a:\n"+want+":\n")
	}
	for _, key := range []string{"-", "--", "---", ".", "_", "true", "0"} {
		wantText(t, mapOf(under(key, scalar("")), under("", scalar(""))), key+":\n\"\":\n")
	}
}

// P10.1: a scalar that is not quoted stands as it is if it may stand plain, else there is no tree, wherever it is.
func TestPlainScalars(t *testing.T) {
	texts := []string{"/a/*", "-5", "--", "--- x", "---x", "a:b", "a#b", "a'\"", "~", "\x80\xff", "*", "- a", "-", "---", "a: b", "a:", ":", " a", "a ", "a #b", "#", "\"a\"", "'a'", "'", "a\nb", "a\t", "\x00", "\x7f", "[a]", "{", "&a", "!a", "|", ">", "%", "@", "?", "`", ",", " ", "\n"}
	for c := range 256 {
		texts = append(texts, string([]byte{byte(c)}), string([]byte{byte(c), 'a'}), string([]byte{'a', byte(c)}), string([]byte{'a', byte(c), 'a'}))
	}
	for _, s := range texts {
		one, kid, item := []api.Node{scalar(s)}, mapOf(under("k", scalar(s))), seqOf(scalar("x"), scalar(s))
		if !lines.Plain(s) {
			wantError(t, one, api.ErrEmit)
			wantError(t, kid, api.ErrEmit)
			wantError(t, item, api.ErrEmit)
			s = lines.Quote(s)
			one[0].Quoted, kid[1].Quoted, item[2].Quoted = true, true, true
		}
		wantText(t, one, s+"\n")
		wantText(t, kid, "k: "+s+"\n")
		wantText(t, item, "- x\n- "+s+"\n")
	}
}

// P10.1: quoted scalars are quoted, also where they need not be.
func TestQuotedScalars(t *testing.T) {
	for _, s := range []string{"x", "", "a b", "*", "- a", "---", "\n", "\t", "\"", "'", "\\", "#", "\x01\x7f\x80\xff", "true"} {
		wantText(t, mapOf(under("k", quoted(s)), under("l", scalar("y"))), "k: "+lines.Quote(s)+"\nl: y\n")
		wantText(t, seqOf(quoted(s), quoted(s)), strings.Repeat("- "+lines.Quote(s)+"\n", 2))
	}
}

// P10.1: Line is not looked at.
func TestLines(t *testing.T) {
	l := mapOf(under("a", scalar("x")), under("b", scalar("")))
	for _, line := range []int{0, 1, -1, -1 << 63, 1<<63 - 1} {
		for at := range l {
			changed := slices.Clone(l)
			changed[at].Line = line
			wantText(t, changed, "a: x\nb:\n")
		}
	}
}
