package store_test

import (
	"math/rand"
	"strconv"
	"testing"

	"turnpike/api"
	"turnpike/disk"
	"turnpike/store"
)

func choices(r *rand.Rand) []int {
	l := make([]int, r.Intn(14))
	for i := range l {
		switch r.Intn(3) {
		case 0:
			l[i] = r.Intn(4)
		case 1:
			l[i] = r.Intn(6000) - 100
		}
	}
	return l
}

// history is what stores on one disk acknowledged: all texts, the first one's number being 1; and the text in flight when the power failed.
type history struct {
	texts  []string
	flying []string // one or none
}

// behind: P7.5: the store has what was acknowledged as the newest ones, and at most the one in flight besides, whole.
func (h *history) behind(t *testing.T, what string, s *store.Store) {
	t.Helper()
	if n := s.Newest() - len(h.texts); n == 1 && len(h.flying) == 1 {
		h.texts = append(h.texts, h.flying[0]) // found: P7.6: from now on it is the only text of that number
	} else if n != 0 {
		t.Fatalf("%s: Newest %d, want %d, in flight %d", what, s.Newest(), len(h.texts), len(h.flying))
	}
	h.flying = nil
	n := len(h.texts)
	wantKept(t, what, s, n, h.texts[max(0, n-8):]...)
	wantDead(t, what, s, false)
}

// puts: texts are put till the power fails.
func (h *history) puts(t *testing.T, r *rand.Rand, d *disk.Disk, s *store.Store, size int) {
	t.Helper()
	for !d.Down() {
		text := strconv.Itoa(r.Int()) + long(r.Intn(size))
		switch n, e := s.Put(text); {
		case e == api.OK:
			h.texts = append(h.texts, text)
			if n != len(h.texts) {
				t.Fatalf("Put: %d, want %d", n, len(h.texts))
			}
			wantKept(t, "acknowledged", s, n, h.texts[max(0, n-8):]...)
		case e == api.ErrDown:
			h.flying = []string{text}
			wantKept(t, "in flight", s, len(h.texts), h.texts[max(0, len(h.texts)-8):]...)
		case e == api.ErrFull:
			if r.Intn(3) == 0 {
				d.Crash(choices(r)...)
			}
		default:
			t.Fatal(e)
		}
	}
}

// P7.5, P7.6: whatever is put, wherever the power fails in it, and in the Open behind it, and whatever is kept.
func TestCrashes(t *testing.T) {
	for seed := range int64(1500) {
		r := rand.New(rand.NewSource(seed))
		size := []int{1, 30, 1000, 3000, 6000}[r.Intn(5)]
		d := disk.New(100 + r.Intn(20*size))
		s, h := open(t, d), &history{}
		for range 5 {
			d.Arm(r.Intn(60), choices(r)...)
			h.puts(t, r, d, s, size)
			d.Up()
			d.Arm(r.Intn(6), choices(r)...)
			if z, e := store.Open(d); e == api.OK {
				h.behind(t, "opened, an arm ahead", z)
			} else if e != api.ErrDown {
				t.Fatalf("%d: Open: %v", seed, e)
			}
			d.Crash(choices(r)...)
			d.Up()
			s = open(t, d)
			h.behind(t, "behind a crash", s)
			if t.Failed() {
				t.Fatalf("seed %d", seed)
			}
		}
	}
}

// P7.5: each operation of a Put, and each of what may be kept of it: with a new segment and a trim, and without.
func TestEachOperation(t *testing.T) {
	for _, size := range []int{20, 4090} {
		start := func() (*disk.Disk, *store.Store, *history) {
			d, h := disk.New(1<<24), &history{}
			s := open(t, d)
			for n := range 12 {
				h.texts = append(h.texts, strconv.Itoa(n)+long(size))
				put(t, s, h.texts[n])
			}
			return d, s, h
		}
		found := map[int]int{}
		for after := range 9 {
			for directory := range 3 {
				for last := range 2 {
					for _, torn := range []int{0, 1, 8, 15, 16, 30, size, size + 15, size + 16} {
						d, s, h := start()
						// of the files those ahead of the last one have nothing loose
						c := make([]int, len(d.Names()))
						c[0] = directory
						if size > 4000 && after >= 1 {
							c = append(c, 0)
						}
						d.Arm(after, append(c, last, torn)...)
						h.flying = []string{"new" + long(size-2)}
						if n, e := s.Put(h.flying[0]); e == api.OK {
							h.texts, h.flying = append(h.texts, h.flying[0]), nil
							if n != 13 {
								t.Fatalf("Put: %d", n)
							}
						}
						d.Crash(c...)
						d.Up()
						z := open(t, d)
						h.behind(t, "behind a crash", z)
						found[z.Newest()]++
						put(t, z, "next")
					}
				}
			}
		}
		if len(found) != 2 || found[12] == 0 || found[13] == 0 {
			t.Errorf("found: %v", found)
		}
	}
}

// P7.6: a version that was in flight, and found, keeps its number behind another crash; one that was not found leaves it to the next.
func TestOnce(t *testing.T) {
	for kept := range 2 {
		d := disk.New(1 << 20)
		s := open(t, d)
		put(t, s, "a")
		d.Arm(1, 0, kept)
		wantRefused(t, "in flight", s, "b", api.ErrDown)
		d.Up()
		want := []string{"a", "b"}[:1+kept]
		for range 3 {
			s = open(t, d)
			wantKept(t, "found", s, len(want), want...)
			d.Crash()
			d.Up()
		}
		want = append(want, "c")
		put(t, s, "c") // by a store that was opened ahead of a crash that took nothing
		d.Crash()
		d.Up()
		wantKept(t, "put behind it", open(t, d), len(want), want...)
	}
}
