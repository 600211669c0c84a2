package schema

import (
	"slices"
	"strings"

	"turnpike/api"
	"turnpike/scalar"
)

// giveUp gives the document up for what stands at a number.
func (d document) giveUp(at int, e api.Errno) {
	panic(wrong{line: d.nodes[at].Line, err: e})
}

func (d document) mustBe(at, kind int) {
	if d.nodes[at].Kind != kind {
		d.giveUp(at, api.ErrValue)
	}
}

// mustHaveOnly gives up at the first field of a map that is none of these.
func (d document) mustHaveOnly(at int, fields ...string) {
	for _, kid := range d.nodes[at].Kids {
		if !slices.Contains(fields, d.nodes[kid].Key) {
			d.giveUp(kid, api.ErrField)
		}
	}
}

func (d document) mustBeTrue(at int) {
	if v := d.value(at); v.Kind != scalar.Bool || !v.Bool {
		d.giveUp(at, api.ErrValue)
	}
}

// find: the number of a map's field, and whether there is such a one.
func (d document) find(at int, key string) (int, bool) {
	for _, kid := range d.nodes[at].Kids {
		if d.nodes[kid].Key == key {
			return kid, true
		}
	}
	return 0, false
}

// field: the number of a map's field, which must be there.
func (d document) field(at int, key string) int {
	kid, is := d.find(at, key)
	if !is {
		d.giveUp(at, api.ErrMissing)
	}
	return kid
}

// kids: the numbers of a sequence's kids. (It has one at least: no tree has an empty sequence.)
func (d document) kids(at, most int) []int {
	d.mustBe(at, api.Seq)
	if len(d.nodes[at].Kids) > most {
		d.giveUp(at, api.ErrCount)
	}
	return d.nodes[at].Kids
}

// text: a scalar's text, which must be such a one; in new memory, as the tree's may be another's.
func (d document) text(at int, such func(string) bool) string {
	n := d.nodes[at]
	if n.Kind != api.Scalar || !such(n.Text) {
		d.giveUp(at, api.ErrValue)
	}
	return strings.Clone(n.Text)
}

// value: what a scalar says.
func (d document) value(at int) scalar.Value {
	d.mustBe(at, api.Scalar)
	return scalar.Read(d.nodes[at].Text, d.nodes[at].Quoted)
}
