package store_test

import (
	"math/rand"
	"slices"
	"strconv"
	"testing"

	"turnpike/api"
	"turnpike/disk"
	"turnpike/store"
	"turnpike/sum"
	"turnpike/wal"
)

// model is a store as the chapter words it: a log, and all versions that there ever were on it.
type model struct {
	d      *disk.Disk
	log    *wal.Log
	newest int
	texts  []string // the last one is the newest's
	dead   bool
}

func modelOpen(d *disk.Disk) (*model, api.Errno) {
	log, e := wal.Open(d, 4096)
	if e != api.OK {
		return nil, e
	}
	m := &model{d: d, log: log}
	for i, r := range log.All() {
		n := 0
		for _, x := range r[:min(8, len(r))] {
			if n = n*256 + int(x); n > 1048576 {
				return nil, api.ErrStore
			}
		}
		if len(r) < 8 || len(r) > 8+65536 || n < 1 || i > 0 && n != m.newest+1 {
			return nil, api.ErrStore
		}
		m.newest, m.texts = n, append(m.texts, string(r[8:]))
	}
	return m, api.OK
}

func (m *model) kept() []string { return m.texts[max(0, len(m.texts)-8):] }

func (m *model) put(text string) (int, api.Errno) {
	if m.dead {
		return 0, api.ErrWal
	}
	n := m.newest + 1
	if len(text) > 65536 || n > 1048576 {
		return 0, api.ErrLong
	}
	r := append([]byte{0, 0, 0, 0, 0, byte(n >> 16), byte(n >> 8), byte(n)}, text...)
	if _, e := m.log.Append(r); e != api.OK {
		m.dead = e != api.ErrFull
		return 0, e
	}
	if e := m.log.Sync(); e != api.OK {
		m.dead = e != api.ErrFull
		return 0, e
	}
	m.newest, m.texts = n, append(m.texts, text)
	m.dead = m.log.Trim(m.log.Next()-len(m.kept())) != api.OK
	return n, api.OK
}

// wantAlike: store and model tell the same, and their disks hold the same.
func wantAlike(t *testing.T, what string, s *store.Store, d *disk.Disk, m *model) {
	t.Helper()
	wantDead(t, what, s, m.dead)
	wantKept(t, what, s, m.newest, m.kept()...)
	names := d.Names()
	if d.Down() != m.d.Down() || !slices.Equal(names, m.d.Names()) || d.Loose("") != m.d.Loose("") {
		t.Fatalf("%s: down %v, the files %q, want %v, %q", what, d.Down(), names, m.d.Down(), m.d.Names())
	}
	for _, name := range names {
		b, _ := d.Read(name)
		if want, _ := m.d.Read(name); !slices.Equal(b, want) || d.Loose(name) != m.d.Loose(name) {
			t.Fatalf("%s: %s has %.40q, %d loose, want %.40q, %d", what, name, b, d.Loose(name), want, m.d.Loose(name))
		}
	}
}

// anyDisk: a log of versions, from any number on, sometimes with one that is wrong, or torn at its end.
func anyDisk(t *testing.T, r *rand.Rand, size int) *disk.Disk {
	d := disk.New(200 + r.Intn(1+25*size))
	l, e := wal.Open(d, []int{1, 100, 4096}[r.Intn(3)])
	ok(t, e)
	first := []int{1, 1, 40, 70000, 1048576 - 20, 1048576 - 5}[r.Intn(6)]
	count := r.Intn(20)
	for n := first; n < first+count; n++ {
		p := append([]byte{0, 0, 0, 0, 0, byte(n >> 16), byte(n >> 8), byte(n)}, long(r.Intn(size))...)
		switch r.Intn(100) {
		case 0:
			p[r.Intn(8)] ^= 1 << r.Intn(8)
		case 1:
			p = p[:r.Intn(8)]
		}
		if _, e := l.Append(p); e != api.OK {
			break
		}
	}
	ok(t, l.Sync())
	if names := d.Names(); len(names) > 0 && r.Intn(3) == 0 {
		name := names[len(names)-1]
		n, _ := d.Size(name)
		f, _ := sum.Frame([]byte("torn"))
		if e := d.Write(name, n, f[:r.Intn(len(f))]); e == api.OK {
			ok(t, d.Sync(name))
		}
	}
	return d
}

// Any puts, over any log, the power failing now and then: answers, files and what is loose of them are those of the model.
func TestAnyCalls(t *testing.T) {
	opened, refused := 0, 0
	for seed := range int64(600) {
		r := rand.New(rand.NewSource(seed))
		size := []int{1, 40, 1500, 6000}[r.Intn(4)]
		d := anyDisk(t, r, size)
		own := d.Copy()
		var s *store.Store
		var m *model
		for i := range 40 {
			if r.Intn(8) == 0 {
				after, c := r.Intn(12), choices(r)
				d.Arm(after, c...)
				own.Arm(after, c...)
			}
			if s == nil || r.Intn(20) == 0 {
				var e, want api.Errno
				s, e = store.Open(d)
				m, want = modelOpen(own)
				if e != want || (s == nil) != (m == nil) {
					t.Fatalf("%d: Open: %v, %v, want %v", seed, s, e, want)
				}
				if s == nil {
					refused++
					d.Up()
					own.Up()
					continue
				}
				opened++
			}
			text := strconv.Itoa(i) + long(r.Intn(size))
			if r.Intn(40) == 0 {
				text = long(api.MaxText + r.Intn(2))
			}
			n, e := s.Put(text)
			if want, f := m.put(text); n != want || e != f {
				t.Fatalf("%d: Put: %d, %v, want %d, %v", seed, n, e, want, f)
			}
			wantAlike(t, "seed "+strconv.FormatInt(seed, 10), s, d, m)
			if t.Failed() {
				t.FailNow()
			}
			if s.Dead() && r.Intn(3) == 0 {
				d.Up()
				own.Up()
				s = nil
			}
		}
	}
	if opened < 600 || refused < 50 {
		t.Errorf("%d opened, %d refused", opened, refused)
	}
}
