package push

import (
	"slices"

	"turnpike/api"
	"turnpike/check"
	"turnpike/frames"
	"turnpike/schema"
)

// numbered is a version; the zero one is the version 0.
type numbered struct {
	number int
	conf   []api.Resource
}

// versions are those that are there, rising, but for the version 0.
type versions []numbered

// taken: a configuration in new memory, and whether it may be published. To merge nothing into it refuses just what is not in order, and what is too much.
func taken(conf []api.Resource) ([]api.Resource, bool) {
	own, _, e := check.Merge(conf, nil)
	if e != api.OK {
		return nil, false
	}
	_, e = schema.Text(own...)
	return own, e == api.OK
}

// with: these and a newest one; the least one goes, if they are too many then.
func (l versions) with(newest numbered) versions {
	l = append(l, newest)
	return slices.Delete(l, 0, max(0, len(l)-Kept))
}

func (l versions) newest() numbered {
	if len(l) == 0 {
		return numbered{}
	}
	return l[len(l)-1]
}

// find: the version of a number; the version 0, if that is not there.
func (l versions) find(number int) numbered {
	for _, v := range l {
		if v.number == number {
			return v
		}
	}
	return numbered{}
}

func (l versions) numbers() []int {
	numbers := make([]int, 0, len(l))
	for _, v := range l {
		numbers = append(numbers, v.number)
	}
	return numbers
}

// delta: what makes the newest version out of one that is held, without a Nonce. The newest one's own text is never too long, or it had not been published; what has deletes beside it may be.
func (l versions) delta(held int) frames.Message {
	base, newest := l.find(held), l.newest()
	text, e := schema.Text(check.Diff(base.conf, newest.conf)...)
	if e != api.OK {
		base = numbered{}
		text, _ = schema.Text(newest.conf...)
	}
	return frames.Message{Kind: frames.Delta, From: base.number, Version: newest.number, Text: text}
}
