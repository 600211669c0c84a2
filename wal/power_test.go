package wal_test

import (
	"math/rand"
	"slices"
	"strings"
	"testing"

	"turnpike/api"
	"turnpike/disk"
	"turnpike/wal"
)

// span is what a log may have behind a crash: the records from number base on, those from first to last of them at least, and no others.
type span struct {
	base        int
	records     []string // all that may be there
	first, last int      // the log begins at most here; it ends at least here
}

func (s span) next() int { return s.base + len(s.records) }

// wantSpan: P6.6.
func wantSpan(t *testing.T, what string, l *wal.Log, s span) {
	t.Helper()
	first, next := l.First(), l.Next()
	if first < s.base || first > s.first || next < s.last || next > s.next() || first > next {
		t.Fatalf("%s: from %d to %d, want from %d..%d to %d..%d", what, first, next, s.base, s.first, s.last, s.next())
	}
	wantLog(t, what, l, first, s.records[first-s.base:next-s.base]...)
}

// turn is a call in the life of a log: it tells what the log may have when the power fails in it, and what it has when it is done.
func turn(r *rand.Rand, l *wal.Log, s span) (within span, behind span, e api.Errno) {
	n, next := s.base+r.Intn(len(s.records)+1), s.next()
	switch within = s; r.Intn(8) {
	default:
		p := strings.Repeat(string(rune('a'+r.Intn(26))), r.Intn(14))
		within.records = append(slices.Clone(s.records), p)
		_, e = l.Append([]byte(p))
		behind = within
	case 5:
		behind = s
		behind.last = next
		e = l.Sync()
	case 6:
		within.last = min(s.last, n)
		behind = span{s.base, slices.Clone(s.records[:n-s.base]), s.base, n}
		e = l.Drop(n)
	case 7:
		within.first = n
		e = l.Trim(n)
		first := l.First()
		behind = span{first, slices.Clone(s.records[first-s.base:]), first, max(s.last, first)}
	}
	return within, behind, e
}

// P6.6: whatever is done, wherever the power fails in it, and in the Open behind it, and whatever is kept.
func TestCrashes(t *testing.T) {
	for seed := range int64(6000) {
		r := rand.New(rand.NewSource(seed))
		d, limit := disk.New(50+r.Intn(400)), 1+r.Intn(60)
		l, s := open(t, d, limit), span{}
		for range 4 {
			d.Arm(r.Intn(40), choices(r)...)
			for !d.Down() {
				within, behind, e := turn(r, l, s)
				if e == api.ErrDown {
					s = within
				} else if e == api.OK {
					s = behind
				} else if e != api.ErrFull {
					t.Fatalf("%d: %v", seed, e)
				} else if r.Intn(3) == 0 {
					d.Crash(choices(r)...)
				}
			}
			d.Up()
			d.Arm(r.Intn(9), choices(r)...)
			if _, e := wal.Open(d, limit); e != api.OK && e != api.ErrDown {
				t.Fatalf("%d: Open: %v", seed, e)
			}
			d.Crash(choices(r)...)
			d.Up()
			l = open(t, d, limit)
			wantSpan(t, "behind a crash", l, s)
			if t.Failed() {
				t.Fatalf("seed %d", seed)
			}
			s = span{l.First(), s.records[l.First()-s.base : l.Next()-s.base], l.First(), l.Next()}
		}
	}
}

func choices(r *rand.Rand) []int {
	l := make([]int, r.Intn(12))
	for i := range l {
		l[i] = r.Intn(30) - 2
	}
	return l
}

// P6.6: each beginning of what is loose of the last segment: the records whose frames are there whole.
func TestEachBeginning(t *testing.T) {
	start := func() *disk.Disk {
		d := disk.New(1000)
		l := open(t, d, 100)
		add(t, l, "one", "two")
		ok(t, l.Sync())
		add(t, l, "three", "")
		return d
	}
	for choice, want := range [][]string{{"one", "two"}, {"one", "two", "three"}, {"one", "two", "three", ""}} {
		for bytes := range len(frames("three")) {
			d := start()
			d.Crash(0, choice, bytes)
			d.Up()
			if choice == 1 && bytes > 7 {
				continue // the frame of no bytes has eight
			}
			l := open(t, d, 100)
			wantLog(t, "behind a crash", l, 0, want...)
			wantFiles(t, "behind a crash", d, files{"log.00000000": frames(want...)})
			add(t, l, "four")
			ok(t, l.Sync())
			d.Crash()
			d.Up()
			wantLog(t, "gone on, behind a crash", open(t, d, 100), 0, append(slices.Clone(want), "four")...)
		}
	}
}

// P6.6: what was dropped is not there behind a crash, even if as much was appended again; neither what was trimmed.
func TestDroppedAndTrimmedStayAway(t *testing.T) {
	for from := range 7 {
		for choice := range 4 {
			d := disk.New(1000)
			l := open(t, d, 20)
			add(t, l, "0", "1", "2", "3", "4", "5")
			ok(t, l.Sync(), l.Drop(from))
			add(t, l, "new", "newer")
			d.Crash(choice, choice, choice, choice, choice)
			d.Up()
			l = open(t, d, 20)
			want := append(strings.Split("0 1 2 3 4 5", " ")[:from], "new", "newer")
			if l.Next() < from || l.Next() > from+2 {
				t.Fatalf("%d records, %d were left", l.Next(), from)
			}
			wantLog(t, "dropped", l, 0, want[:l.Next()]...)
		}
	}
	d := disk.New(1000)
	l := open(t, d, 20)
	add(t, l, "0", "1", "2", "3", "4", "5")
	ok(t, l.Sync(), l.Trim(3))
	for choice := range 4 {
		c := d.Copy()
		c.Crash(choice, choice, choice, choice)
		c.Up()
		wantLog(t, "trimmed", open(t, c, 20), 2, "2", "3", "4", "5")
	}
}
