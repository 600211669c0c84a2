package disk

import (
	"bytes"
	"slices"
)

// part is what of a disk has changes of its own that may be loose: the directory, or a file.
type part[T any] struct {
	lasting T
	loose   []change[T]
	now     T // what lasts, with all loose changes
}

// change is a change of a part. It holds nothing of the part, nor anything that is changed later: copies of a disk have it in common.
type change[T any] struct {
	do    func(of T, n int) T // n: so many bytes of it, from the first on; only what tears looks at it
	size  int                 // all of its bytes
	tears bool
}

type directory = map[string]int

type file = part[[]byte]

func (p *part[T]) change(c change[T]) {
	p.now = c.do(p.now, c.size)
	p.loose = append(p.loose, c)
}

// keep makes so many of the loose changes last, from the first on.
func (p *part[T]) keep(n int) {
	for _, c := range p.loose[:n] {
		p.lasting = c.do(p.lasting, c.size)
	}
}

func (p *part[T]) sync() {
	p.keep(len(p.loose))
	p.loose = nil
}

// fail is what the power's failing does to a part: choose tells how many of its loose changes are kept, and how much of one that is torn. fresh makes new memory of what lasts.
func (p *part[T]) fail(choose func(most int) int, fresh func(T) T) {
	kept := choose(len(p.loose))
	p.keep(kept)
	if kept < len(p.loose) && p.loose[kept].tears {
		torn := p.loose[kept]
		p.lasting = torn.do(p.lasting, choose(torn.size))
	}
	p.loose, p.now = nil, fresh(p.lasting)
}

func (p *part[T]) copy(fresh func(T) T) part[T] {
	return part[T]{lasting: fresh(p.lasting), loose: slices.Clone(p.loose), now: fresh(p.now)}
}

func naming(name string, number int) change[directory] {
	return change[directory]{do: func(names directory, _ int) directory {
		if names == nil { // as of a disk on which no name was made yet
			names = directory{}
		}
		names[name] = number
		return names
	}}
}

func renaming(from, to string, number int) change[directory] {
	return change[directory]{do: func(names directory, _ int) directory {
		delete(names, from) // first, as from may be to
		names[to] = number
		return names
	}}
}

func removing(name string) change[directory] {
	return change[directory]{do: func(names directory, _ int) directory {
		delete(names, name)
		return names
	}}
}

func writing(at int, p []byte) change[[]byte] {
	p = bytes.Clone(p)
	write := func(b []byte, n int) []byte {
		over := copy(b[at:], p[:n])
		return append(b, p[over:n]...)
	}
	return change[[]byte]{do: write, size: len(p), tears: true}
}

func cutting(n int) change[[]byte] {
	return change[[]byte]{do: func(b []byte, _ int) []byte { return b[:n] }}
}
