package wal_test

import (
	"math/rand"
	"slices"
	"strconv"
	"strings"
	"testing"

	"turnpike/api"
	"turnpike/disk"
	"turnpike/sum"
	"turnpike/wal"
)

// model is a log as the chapter words it: all records in one list, and where segments begin; what it does to its disk is a list of operations.
type model struct {
	d       *disk.Disk
	limit   int
	dead    bool
	first   int
	records []string
	begins  []int // the first number of each segment
}

func nameOf(number int) string {
	s := strconv.Itoa(number)
	for len(s) < 8 {
		s = "0" + s
	}
	return "log." + s
}

func (m *model) next() int { return m.first + len(m.records) }

// bytes: the frames of the records from one number to below another.
func (m *model) bytes(from, to int) string {
	return frames(m.records[from-m.first : to-m.first]...)
}

// do does operations up to the first that fails.
func do(operations ...func() api.Errno) api.Errno {
	for _, o := range operations {
		if e := o(); e != api.OK {
			return e
		}
	}
	return api.OK
}

func (m *model) cut(name string, n int) []func() api.Errno {
	return []func() api.Errno{func() api.Errno { return m.d.Cut(name, n) }, func() api.Errno { return m.d.Sync(name) }}
}

func (m *model) remove(numbers []int) []func() api.Errno {
	var l []func() api.Errno
	for _, n := range numbers {
		l = append(l, func() api.Errno { return m.d.Remove(nameOf(n)) })
	}
	return l
}

func (m *model) settle(numbers []int) []func() api.Errno {
	if len(numbers) == 0 {
		return nil
	}
	return []func() api.Errno{m.d.SyncDir}
}

func modelOpen(d *disk.Disk, limit int) (*model, api.Errno) {
	m := &model{d: d, limit: limit}
	if d.Down() {
		return nil, api.ErrDown
	}
	var numbers []int
	for n := range 100 {
		if slices.Contains(d.Names(), nameOf(n)) {
			numbers = append(numbers, n)
		}
	}
	var others []int
	var cut []func() api.Errno
	for i, n := range numbers {
		b, _ := d.Read(nameOf(n))
		payloads, head := sum.Scan(b)
		if i == 0 {
			m.first = n
		} else if n != m.next() || cut != nil {
			others = append(others, n)
			continue
		}
		m.begins = append(m.begins, n)
		for _, p := range payloads {
			m.records = append(m.records, string(p))
		}
		if head < len(b) {
			cut = m.cut(nameOf(n), head)
		}
		if len(payloads) == 0 && i > 0 {
			others = append(others, n)
			m.begins = m.begins[:len(m.begins)-1]
			if cut == nil {
				cut = []func() api.Errno{} // nothing can follow: the next number is higher
			}
		}
	}
	e := do(slices.Concat(cut, m.remove(others), m.settle(others))...)
	if e != api.OK {
		return nil, e
	}
	return m, api.OK
}

// ends: what a call comes to, by what the disk said; done is what it changes.
func (m *model) ends(e api.Errno, kind string, done func()) api.Errno {
	if e == api.OK {
		done()
	} else if kind == "whatever" || e != api.ErrFull && e != api.ErrLong {
		m.dead = true
	}
	return e
}

func (m *model) append(p string) (int, api.Errno) {
	if m.dead {
		return -1, api.ErrWal
	}
	if len(p) > sum.MaxRecord {
		return -1, api.ErrLong
	}
	fresh, at := len(m.begins) == 0, 0
	var l []func() api.Errno
	if !fresh {
		last := m.begins[len(m.begins)-1]
		at = len(m.bytes(last, m.next()))
		if last < m.next() && at+8+len(p) > m.limit {
			fresh, at = true, 0
			l = append(l, func() api.Errno { return m.d.Sync(nameOf(last)) })
		}
	}
	if fresh {
		l = append(l, func() api.Errno {
			e := m.d.Create(nameOf(m.next()))
			if e == api.OK {
				m.begins = append(m.begins, m.next())
			}
			return e
		}, m.d.SyncDir)
	}
	n := m.next()
	l = append(l, func() api.Errno { return m.d.Write(nameOf(m.begins[len(m.begins)-1]), at, []byte(frames(p))) })
	if e := m.ends(do(l...), "", func() { m.records = append(m.records, p) }); e != api.OK {
		return -1, e
	}
	return n, api.OK
}

func (m *model) sync() api.Errno {
	if m.dead {
		return api.ErrWal
	}
	if len(m.begins) == 0 {
		return api.OK
	}
	return m.ends(m.d.Sync(nameOf(m.begins[len(m.begins)-1])), "", func() {})
}

func (m *model) refuses(n int) api.Errno {
	if m.dead {
		return api.ErrWal
	}
	if n < m.first || n > m.next() {
		return api.ErrArg
	}
	return api.OK
}

func (m *model) drop(from int) api.Errno {
	if e := m.refuses(from); e != api.OK || len(m.begins) == 0 {
		return e
	}
	left := []int{m.begins[0]}
	var gone []int
	for _, n := range m.begins[1:] {
		if n < from {
			left = append(left, n)
		} else {
			gone = append([]int{n}, gone...)
		}
	}
	last := left[len(left)-1]
	e := do(slices.Concat(m.remove(gone), m.cut(nameOf(last), len(m.bytes(last, from))), m.settle(gone))...)
	return m.ends(e, "whatever", func() { m.begins, m.records = left, m.records[:from-m.first] })
}

func (m *model) trim(before int) api.Errno {
	if e := m.refuses(before); e != api.OK || len(m.begins) == 0 {
		return e
	}
	var gone []int
	for i, n := range m.begins[:len(m.begins)-1] {
		if m.begins[i+1] <= before {
			gone = append(gone, n)
		}
	}
	e := do(slices.Concat(m.remove(gone), m.settle(gone))...)
	return m.ends(e, "whatever", func() {
		m.begins = m.begins[len(gone):]
		m.records = m.records[m.begins[0]-m.first:]
		m.first = m.begins[0]
	})
}

// wantAlike: log and model tell the same, and their disks hold the same.
func wantAlike(t *testing.T, what string, l *wal.Log, d *disk.Disk, m *model) {
	t.Helper()
	if d.Down() != m.d.Down() || l.Dead() != m.dead {
		t.Fatalf("%s: down %v, %v; dead %v, want %v", what, d.Down(), m.d.Down(), l.Dead(), m.dead)
	}
	wantLog(t, what, l, m.first, m.records...)
	want := files{}
	for _, name := range m.d.Names() {
		b, _ := m.d.Read(name)
		want[name] = string(b)
		wantLoose(t, what, d, map[string]int{name: m.d.Loose(name)})
	}
	wantLoose(t, what, d, map[string]int{"": m.d.Loose("")})
	wantFiles(t, what, d, want)
}

// anyDisk: files of segments of any kind, whole or torn, with gaps and without, and others.
func anyDisk(t *testing.T, r *rand.Rand) *disk.Disk {
	l := files{}
	next := r.Intn(12)
	for range r.Intn(5) {
		var payloads []string
		for range r.Intn(4) {
			payloads = append(payloads, strings.Repeat("p", r.Intn(5)))
		}
		b := frames(payloads...)
		if r.Intn(5) == 0 {
			b += frames("torn")[:r.Intn(12)]
		}
		l[nameOf(next)] = b
		if next += len(payloads); r.Intn(4) == 0 {
			next += r.Intn(3)
		} else if r.Intn(6) == 0 {
			next = max(next-1, 0)
		}
	}
	if r.Intn(3) == 0 {
		l["log.0000000a"] = "x"
	}
	full := diskOf(t, l)
	if r.Intn(2) == 0 {
		return full
	}
	// one without much room
	size := 0
	for _, b := range l {
		size += len(b)
	}
	d := disk.New(size + r.Intn(60))
	for name, b := range l {
		ok(t, d.Create(name), d.Write(name, 0, []byte(b)))
	}
	return d
}

// Any calls, over any disk, the power failing now and then: answers, files and what is loose of them are those of the model.
func TestAnyCalls(t *testing.T) {
	for seed := range int64(3000) {
		r := rand.New(rand.NewSource(seed))
		d, limit := anyDisk(t, r), 1+r.Intn(50)
		own := d.Copy()
		var l *wal.Log
		var m *model
		for range 40 {
			if l == nil || r.Intn(20) == 0 {
				if r.Intn(4) == 0 {
					after, c := r.Intn(20), choices(r)
					d.Arm(after, c...)
					own.Arm(after, c...)
				}
				var e, want api.Errno
				l, e = wal.Open(d, limit)
				m, want = modelOpen(own, limit)
				if e != want || (l == nil) != (m == nil) {
					t.Fatalf("%d: Open: %v, %v, want %v", seed, l, e, want)
				}
				if l == nil {
					d.Up()
					own.Up()
					continue
				}
			} else if got, want := anyCall(r, l, m); got != want {
				t.Fatalf("%d: %v, want %v", seed, got, want)
			}
			wantAlike(t, "seed "+strconv.FormatInt(seed, 10), l, d, m)
			if t.Failed() {
				t.FailNow()
			}
			if l.Dead() && r.Intn(3) == 0 {
				d.Up()
				own.Up()
				l = nil
			}
		}
	}
}

// anyCall: what the log answers, and what the model does; of an Append the number too.
func anyCall(r *rand.Rand, l *wal.Log, m *model) (got, want [2]int) {
	n := m.first - 1 + r.Intn(len(m.records)+3)
	switch r.Intn(9) {
	default:
		p := strings.Repeat(string(rune('a'+r.Intn(26))), r.Intn(25))
		i, e := l.Append([]byte(p))
		k, f := m.append(p)
		return [2]int{i, int(e)}, [2]int{k, int(f)}
	case 6:
		return [2]int{0, int(l.Sync())}, [2]int{0, int(m.sync())}
	case 7:
		return [2]int{0, int(l.Drop(n))}, [2]int{0, int(m.drop(n))}
	case 8:
		return [2]int{0, int(l.Trim(n))}, [2]int{0, int(m.trim(n))}
	}
}

// P6.7: the frames of all records, in order, are what the segments hold; each but one that has one record has at most limit bytes.
func TestWhatSegmentsHold(t *testing.T) {
	for seed := range int64(1500) {
		r := rand.New(rand.NewSource(seed))
		d, limit := disk.New(30+r.Intn(400)), 1+r.Intn(60)
		l := open(t, d, limit)
		for range 30 {
			n := l.First() + r.Intn(l.Next()-l.First()+1)
			switch r.Intn(9) {
			default:
				l.Append(make([]byte, r.Intn(20)))
			case 6:
				ok(t, l.Sync())
			case 7:
				ok(t, l.Drop(n))
			case 8:
				ok(t, l.Trim(n))
			}
			wantSegments(t, l, d, limit)
		}
	}
}

func wantSegments(t *testing.T, l *wal.Log, d *disk.Disk, limit int) {
	t.Helper()
	held, next := "", l.First()
	for _, name := range d.Names() {
		b, _ := d.Read(name)
		payloads, head := sum.Scan(b)
		if head != len(b) || name != nameOf(next) || len(b) > limit && len(payloads) > 1 {
			t.Fatalf("%s has %d records in %d bytes, want %s, the limit being %d", name, len(payloads), len(b), nameOf(next), limit)
		}
		next += len(payloads)
		held += string(b)
	}
	want := ""
	for _, p := range l.All() {
		want += frames(string(p))
	}
	if held != want || next != l.Next() {
		t.Fatalf("the segments hold %q up to %d, want %q up to %d", held, next, want, l.Next())
	}
}
