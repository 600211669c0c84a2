package emit

import (
	"turnpike/api"
	"turnpike/lines"
	"turnpike/words"
)

// deeper: the blanks by which a block stands to the right of what it belongs to.
const deeper = "  "

// page takes a text piece by piece, up to one byte more than may be: that one tells that it is too long, however much would follow.
type page struct {
	text []byte
}

// put adds the pieces; false, if no more need be put, as the text is too long whatever follows.
func (p *page) put(pieces ...string) bool {
	for _, s := range pieces {
		room := api.MaxText + 1 - len(p.text)
		p.text = append(p.text, s[:min(len(s), room)]...)
	}
	return !p.isLong()
}

func (p *page) isLong() bool { return len(p.text) > api.MaxText }

// writer goes through a tree and puts its text.
type writer struct {
	nodes []api.Node
	put   func(pieces ...string) bool
}

func (w writer) document() {
	if root := w.nodes[0]; root.Kind != api.Scalar {
		w.block(0, "")
	} else if s := textOf(root); s != "" {
		w.put(s, "\n")
	}
}

// block puts the lines of a map or a sequence, the first one without its indent: what stands ahead of it is put already.
func (w writer) block(at int, indent string) {
	n := w.nodes[at]
	for i, number := range n.Kids {
		if i > 0 && !w.put(indent) {
			return
		}
		kid := w.nodes[number]
		w.head(n, kid)
		if kid.Kind == api.Scalar {
			w.scalar(kid)
			continue
		}
		if n.Kind == api.Map {
			w.put("\n", indent, deeper)
		} else {
			w.put(" ")
		}
		w.block(number, indent+deeper)
	}
}

// head puts what a kid's line begins with.
func (w writer) head(parent, kid api.Node) {
	if parent.Kind == api.Map {
		w.put(keyOf(kid.Key), ":")
	} else {
		w.put("-")
	}
}

// scalar puts what is left of a scalar's line.
func (w writer) scalar(n api.Node) {
	if s := textOf(n); s != "" {
		w.put(" ", s)
	}
	w.put("\n")
}

func textOf(n api.Node) string {
	if n.Quoted {
		return quote(n.Text)
	}
	return n.Text
}

func keyOf(key string) string {
	if words.IsName(key) {
		return key
	}
	return quote(key)
}

// quote: s quoted; of one that is too long by itself no more than is too long too, as the whole would take several times its memory.
func quote(s string) string { return lines.Quote(s[:min(len(s), api.MaxText)]) }
