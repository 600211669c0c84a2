package disk_test

import (
	"maps"
	"math/rand"
	"slices"
	"strings"
	"testing"

	"turnpike/api"
	"turnpike/disk"
)

// model is a disk as the chapter words it: not by changes that are done again, but by all that there was since the last sync.
type model struct {
	room, after int
	down, armed bool
	choices     []int
	dirs        []map[string]*modelFile // [0] lasts; behind it one for each loose change
}

type modelFile struct {
	states [][]byte // as dirs
	writes []*write // what each loose change wrote; nil of a cut
}

type write struct {
	at int
	p  []byte
}

func newModel(room int) *model { return &model{room: room, dirs: []map[string]*modelFile{{}}} }

func (f *modelFile) now() []byte { return f.states[len(f.states)-1] }

func (m *model) now() map[string]*modelFile { return m.dirs[len(m.dirs)-1] }

func (m *model) sorted() []string { return slices.Sorted(maps.Keys(m.now())) }

// over: b with p from the place at on.
func over(b []byte, at int, p []byte) []byte {
	c := slices.Concat(b[:at], p)
	if len(c) < len(b) {
		c = append(c, b[len(c):]...)
	}
	return c
}

func (m *model) crash(choices []int) {
	if m.down {
		return
	}
	choose := func(most int) int {
		n := 0
		if len(choices) > 0 {
			n, choices = choices[0], choices[1:]
		}
		for n = n % (most + 1); n < 0; {
			n += most + 1
		}
		return n
	}
	m.dirs = m.dirs[choose(len(m.dirs)-1):][:1]
	for _, name := range m.sorted() {
		f := m.now()[name]
		k := choose(len(f.states) - 1)
		b := f.states[k]
		if k < len(f.writes) && f.writes[k] != nil {
			w := f.writes[k]
			b = over(b, w.at, w.p[:choose(len(w.p))])
		}
		f.states, f.writes = [][]byte{b}, nil
	}
	m.down, m.armed = true, false
}

// operation: what an operation answers that isn't refused. lasts: it only makes something last.
func (m *model) operation(lasts bool, do func()) api.Errno {
	dies := m.armed && m.after == 0
	if !dies || !lasts {
		do()
	}
	if dies {
		m.crash(m.choices)
		return api.ErrDown
	}
	m.after--
	return api.OK
}

func named(name string) bool {
	return len(name) > 0 && len(name) <= 64 && strings.IndexFunc(name, func(r rune) bool { return r < '!' || r > '~' || r == '/' }) < 0
}

// file: the file of a name, or why there is none.
func (m *model) file(names ...string) (*modelFile, api.Errno) {
	if m.down {
		return nil, api.ErrDown
	}
	if !slices.ContainsFunc(names, func(n string) bool { return !named(n) }) {
		if f := m.now()[names[0]]; f != nil {
			return f, api.OK
		}
		return nil, api.ErrNoFile
	}
	return nil, api.ErrArg
}

func (m *model) redirect(change func(dir map[string]*modelFile)) api.Errno {
	return m.operation(false, func() {
		dir := maps.Clone(m.now())
		change(dir)
		m.dirs = append(m.dirs, dir)
	})
}

func (m *model) create(name string) api.Errno {
	switch _, e := m.file(name); {
	case e == api.OK:
		return api.ErrExists
	case e != api.ErrNoFile:
		return e
	case len(m.now()) == 64:
		return api.ErrFull
	}
	return m.redirect(func(dir map[string]*modelFile) { dir[name] = &modelFile{states: [][]byte{{}}} })
}

func (m *model) rename(from, to string) api.Errno {
	f, e := m.file(from, to)
	if e != api.OK {
		return e
	}
	return m.redirect(func(dir map[string]*modelFile) {
		delete(dir, from)
		dir[to] = f
	})
}

func (m *model) remove(name string) api.Errno {
	if _, e := m.file(name); e != api.OK {
		return e
	}
	return m.redirect(func(dir map[string]*modelFile) { delete(dir, name) })
}

func (m *model) write(name string, at int, p []byte) api.Errno {
	f, e := m.file(name)
	if e != api.OK {
		return e
	}
	if at < 0 || at > len(f.now()) {
		return api.ErrArg
	}
	b, total := over(f.now(), at, p), 0
	for _, g := range m.now() {
		total += len(g.now())
	}
	if then := total - len(f.now()) + len(b); then > m.room && then > total {
		return api.ErrFull
	}
	return m.operation(false, func() { f.states, f.writes = append(f.states, b), append(f.writes, &write{at, slices.Clone(p)}) })
}

func (m *model) cut(name string, n int) api.Errno {
	f, e := m.file(name)
	if e != api.OK {
		return e
	}
	if n < 0 || n > len(f.now()) {
		return api.ErrArg
	}
	return m.operation(false, func() { f.states, f.writes = append(f.states, f.now()[:n]), append(f.writes, nil) })
}

func (m *model) sync(name string) api.Errno {
	f, e := m.file(name)
	if e != api.OK {
		return e
	}
	return m.operation(true, func() { f.states, f.writes = [][]byte{f.now()}, nil })
}

func (m *model) syncDir() api.Errno {
	if m.down {
		return api.ErrDown
	}
	return m.operation(true, func() { m.dirs = [](map[string]*modelFile){m.now()} })
}

func (m *model) arm(after int, choices []int) {
	if !m.down {
		m.armed, m.after, m.choices = true, max(after, 0), choices
	}
}

func (m *model) copy() *model {
	c := *m
	c.dirs = nil
	own := map[*modelFile]*modelFile{}
	for _, dir := range m.dirs {
		to := map[string]*modelFile{}
		for name, f := range dir {
			if own[f] == nil {
				own[f] = &modelFile{slices.Clone(f.states), slices.Clone(f.writes)}
			}
			to[name] = own[f]
		}
		c.dirs = append(c.dirs, to)
	}
	return &c
}

// pair is a disk and its model, which must tell the same.
type pair struct {
	d *disk.Disk
	m *model
}

// someNames: those of a walk, some of them likelier, and two that may not be.
func someNames() []string {
	return []string{"a", "b", "c", "d", "B", "~", "", "a b", "a", "b", "c", "a", "b", "c", "a", "b"}
}

// check: they tell the same by all questions.
func (p pair) check(t *testing.T) {
	t.Helper()
	want, dirLoose := []string(nil), 0
	if !p.m.down {
		want, dirLoose = p.m.sorted(), len(p.m.dirs)-1
	}
	if p.d.Down() != p.m.down || !slices.Equal(p.d.Names(), want) || p.d.Loose("") != dirLoose {
		t.Fatalf("down %v, names %q, %d loose; want %v, %q, %d", p.d.Down(), p.d.Names(), p.d.Loose(""), p.m.down, want, dirLoose)
	}
	for _, name := range someNames() {
		f, e := p.m.file(name)
		b, re := p.d.Read(name)
		n, se := p.d.Size(name)
		bytes, loose := []byte(nil), 0
		if e == api.OK {
			bytes, loose = f.now(), len(f.states)-1
		}
		if re != e || se != e || string(b) != string(bytes) || n != len(bytes) || name != "" && p.d.Loose(name) != loose {
			t.Fatalf("%q: %q, %v, %d, %v, %d loose; want %q, %v, %d loose", name, b, re, n, se, p.d.Loose(name), bytes, e, loose)
		}
	}
}

func someChoices(r *rand.Rand) []int {
	l := make([]int, r.Intn(12))
	for i := range l {
		l[i] = r.Intn(20) - 6
	}
	return l
}

// turn does one thing with both: what it was, and what both answered.
func (p pair) turn(r *rand.Rand) (what string, got, want api.Errno) {
	if p.m.down && r.Intn(2) == 0 {
		p.d.Up()
		p.m.down = false
		return "Up", 0, 0
	}
	switch r.Intn(25) {
	case 0:
		l, after := someChoices(r), r.Intn(12)-1
		p.d.Arm(after, l...)
		p.m.arm(after, l)
		return "Arm", 0, 0
	case 1:
		l := someChoices(r)
		p.d.Crash(l...)
		p.m.crash(l)
		return "Crash", 0, 0
	case 2:
		p.d.Up()
		p.m.down = false
		return "Up", 0, 0
	}
	return p.operate(r)
}

func (p pair) operate(r *rand.Rand) (what string, got, want api.Errno) {
	pick := func() string { return someNames()[r.Intn(len(someNames()))] }
	name, to := pick(), pick()
	size, _ := p.d.Size(name)
	at := r.Intn(size + 1)
	switch r.Intn(8) {
	case 0:
		at = size
	case 1:
		at += r.Intn(5) - 2
	}
	switch r.Intn(16) {
	case 0, 1, 2:
		return "Create " + name, p.d.Create(name), p.m.create(name)
	case 3, 4, 5, 6, 7:
		b := make([]byte, r.Intn(5))
		r.Read(b)
		return "Write " + name, p.d.Write(name, at, b), p.m.write(name, at, b)
	case 8, 9:
		return "Cut " + name, p.d.Cut(name, at), p.m.cut(name, at)
	case 10, 11:
		return "Sync " + name, p.d.Sync(name), p.m.sync(name)
	case 12, 13:
		return "Rename " + name + " " + to, p.d.Rename(name, to), p.m.rename(name, to)
	case 14:
		return "Remove " + name, p.d.Remove(name), p.m.remove(name)
	}
	return "SyncDir", p.d.SyncDir(), p.m.syncDir()
}

// P3.2 to P3.10: long walks tell what the model tells, copies taken on the way too.
func TestWalks(t *testing.T) {
	for seed := range 300 {
		r := rand.New(rand.NewSource(int64(seed)))
		room := r.Intn(40) - 3
		all := []pair{{disk.New(room), newModel(max(room, 0))}}
		for i := range 250 {
			k := r.Intn(len(all))
			what, got, want := all[k].turn(r)
			if got != want {
				t.Fatalf("walk %d, turn %d: %s: %v, want %v", seed, i, what, got, want)
			}
			if r.Intn(30) == 0 {
				all = append(all, pair{all[k].d.Copy(), all[k].m.copy()})
			}
			for _, p := range all {
				p.check(t)
			}
			if len(all) > 3 {
				all = all[1:]
			}
		}
	}
}
