package store_test

import (
	"math"
	"slices"
	"strconv"
	"strings"
	"testing"

	"turnpike/api"
	"turnpike/disk"
	"turnpike/store"
	"turnpike/wal"
)

// ok: calls that must not be refused.
func ok(t *testing.T, l ...api.Errno) {
	t.Helper()
	for i, e := range l {
		if e != api.OK {
			t.Fatalf("call %d: %v", i, e)
		}
	}
}

// open: a store that must open.
func open(t *testing.T, d *disk.Disk) *store.Store {
	t.Helper()
	s, e := store.Open(d)
	if s == nil || e != api.OK {
		t.Fatalf("Open: %v, %v", s, e)
	}
	return s
}

// put: texts that must be taken, one behind the other.
func put(t *testing.T, s *store.Store, texts ...string) {
	t.Helper()
	for _, text := range texts {
		want := s.Newest() + 1
		if n, e := s.Put(text); n != want || e != api.OK {
			t.Fatalf("Put(%.20q): %d, %v, want %d", text, n, e, want)
		}
	}
}

// wantRefused: a Put that must be refused.
func wantRefused(t *testing.T, what string, s *store.Store, text string, want api.Errno) {
	t.Helper()
	if n, e := s.Put(text); n != 0 || e != want {
		t.Errorf("%s: Put: %d, %v, want 0, %v", what, n, e, want)
	}
}

// wantKept: the store keeps just these texts, the last one with that number, whatever it is asked by.
func wantKept(t *testing.T, what string, s *store.Store, newest int, texts ...string) {
	t.Helper()
	first := newest - len(texts) + 1
	var numbers []int
	for i := range texts {
		numbers = append(numbers, first+i)
	}
	if s.Newest() != newest || !slices.Equal(s.Kept(), numbers) {
		t.Errorf("%s: Newest %d, Kept %v, want %d, %v", what, s.Newest(), s.Kept(), newest, numbers)
		return
	}
	for i, want := range texts {
		if text, e := s.Get(first + i); text != want || e != api.OK {
			t.Errorf("%s: Get(%d): %.40q, %v, want %.40q", what, first+i, text, e, want)
		}
	}
	for _, n := range []int{min(first, 1) - 1, first - 1, newest + 1, newest + 1000, -newest - 1, math.MinInt, math.MaxInt} {
		if text, e := s.Get(n); text != "" || e != api.ErrNoVersion {
			t.Errorf("%s: Get(%d): %.40q, %v", what, n, text, e)
		}
	}
}

// wantDead: whether it is.
func wantDead(t *testing.T, what string, s *store.Store, want bool) {
	t.Helper()
	if s.Dead() != want {
		t.Errorf("%s: Dead %v, want %v", what, s.Dead(), want)
	}
}

// record: a record that must be one.
func record(t *testing.T, number int, text string) []byte {
	t.Helper()
	r, e := store.Record(number, text)
	ok(t, e)
	return r
}

// diskOf: a disk whose log has these records, all of it lasting.
func diskOf(t *testing.T, records ...[]byte) *disk.Disk {
	t.Helper()
	d := disk.New(1 << 24)
	l, e := wal.Open(d, store.Limit)
	ok(t, e)
	for _, r := range records {
		_, e := l.Append(r)
		ok(t, e)
	}
	ok(t, l.Sync())
	return d
}

// long: a text of so many bytes.
func long(n int) string { return strings.Repeat("0123456789", n/10+1)[:n] }

// numbered: the texts "from" to "to".
func numbered(from, to int) []string {
	var l []string
	for i := from; i <= to; i++ {
		l = append(l, strconv.Itoa(i))
	}
	return l
}

func TestExamples(t *testing.T) {
	s := open(t, disk.New(1<<20))
	wantKept(t, "an empty disk", s, 0)
	put(t, s, "a", "b")
	wantKept(t, "two", s, 2, "a", "b")
	put(t, s, numbered(3, 10)...)
	wantKept(t, "ten", s, 10, numbered(3, 10)...)

	for _, x := range []struct {
		choices []int
		want    []string
	}{{nil, []string{"a"}}, {[]int{0, 1}, []string{"a", "b"}}} {
		d := disk.New(1 << 20)
		s := open(t, d)
		put(t, s, "a")
		d.Arm(1, x.choices...) // b's record is written; the power fails when it is synced
		wantRefused(t, "the power fails", s, "b", api.ErrDown)
		d.Up()
		wantKept(t, "behind it", open(t, d), len(x.want), x.want...)
	}

	s = open(t, disk.New(40))
	put(t, s, "a")
	wantRefused(t, "no room", s, long(20), api.ErrFull)
	put(t, s, "b")
	wantKept(t, "room enough", s, 2, "a", "b")
}

// P7.1: the errors of wal's Open.
func TestOpenRefused(t *testing.T) {
	if s, e := store.Open(nil); s != nil || e != api.ErrNil {
		t.Errorf("no disk: %v, %v", s, e)
	}
	d := diskOf(t, record(t, 1, "a"))
	d.Crash()
	if s, e := store.Open(d); s != nil || e != api.ErrDown {
		t.Errorf("down: %v, %v", s, e)
	}
	d.Up()
	wantKept(t, "up again", open(t, d), 1, "a")

	// Cut, Sync, of what is torn; then nothing
	for after, want := range []api.Errno{api.ErrDown, api.ErrDown, api.OK} {
		for _, torn := range []string{"torn", ""} {
			d := diskOf(t, record(t, 1, "a"))
			size, e := d.Size("log.00000000")
			ok(t, e, d.Write("log.00000000", size, []byte(torn)), d.Sync("log.00000000"))
			d.Arm(after)
			if torn == "" {
				want = api.OK
			}
			if s, e := store.Open(d); (s == nil) != (e != api.OK) || e != want {
				t.Errorf("the power fails behind %d operations: %v, %v, want %v", after, s, e, want)
			}
		}
	}
	// of a log that is no store's the error of wal's Open comes first, too
	d = diskOf(t, nil)
	d.Crash()
	if s, e := store.Open(d); s != nil || e != api.ErrDown {
		t.Errorf("down, no store's: %v, %v", s, e)
	}
}

// P7.1: a record that is no version's, or not the next one's, wherever it stands.
func TestOpenNoStore(t *testing.T) {
	one, two, three := record(t, 1, "a"), record(t, 2, ""), record(t, 3, "c")
	last := record(t, api.MaxVersions, "z")
	for what, l := range map[string][][]byte{
		"no bytes":                       {nil},
		"seven bytes":                    {one[:7]},
		"seven bytes behind one":         {one, two[:7]},
		"seven bytes amid others":        {one, two[:7], three},
		"the number 0":                   {make([]byte, 9)},
		"the number 0, then 1":           {make([]byte, 9), one},
		"past the last number":           {last, {0, 0, 0, 0, 0, 16, 0, 1}},
		"past the last number, alone":    {{0, 0, 0, 0, 0, 16, 0, 1}},
		"far past the last number":       {{1, 0, 0, 0, 0, 0, 0, 1}},
		"below 0":                        {{255, 255, 255, 255, 255, 255, 255, 255}},
		"too long a text":                {append(slices.Clone(one), long(api.MaxText)...)},
		"too long a text behind one":     {one, append(slices.Clone(two), long(api.MaxText+1)...)},
		"one number twice":               {one, one},
		"one number twice, the last one": {last, last},
		"a gap":                          {one, three},
		"a gap behind two":               {one, two, record(t, 4, "")},
		"falling":                        {two, one},
		"falling behind two":             {one, two, one},
		"from the end to the beginning":  {last, one},
	} {
		d := diskOf(t, l...)
		if s, e := store.Open(d); s != nil || e != api.ErrStore {
			t.Errorf("%s: %v, %v", what, s, e)
		}
	}
	// the fault may stand ahead of what would be kept
	far := [][]byte{one}
	for n := 3; n < 30; n++ {
		far = append(far, record(t, n, ""))
	}
	if s, e := store.Open(diskOf(t, far...)); s != nil || e != api.ErrStore {
		t.Errorf("a gap far ahead: %v, %v", s, e)
	}
}

// P7.1: the first record may have any number; what is kept are the last eight.
func TestOpenLogs(t *testing.T) {
	wantKept(t, "no record", open(t, diskOf(t)), 0)
	wantKept(t, "one in the middle", open(t, diskOf(t, record(t, 77, "x"))), 77, "x")
	wantKept(t, "the last one", open(t, diskOf(t, record(t, api.MaxVersions, ""))), api.MaxVersions, "")
	wantKept(t, "the longest", open(t, diskOf(t, record(t, 1, long(api.MaxText)))), 1, long(api.MaxText))
	for first := 1; first < 4000; first += 1111 {
		var l [][]byte
		for i := range 20 {
			l = append(l, record(t, first+i, strconv.Itoa(first+i)))
			newest := first + i
			s := open(t, diskOf(t, l...))
			wantKept(t, "so many", s, newest, numbered(max(first, newest-7), newest)...)
			wantDead(t, "so many", s, false)
			put(t, s, strconv.Itoa(newest+1))
			wantKept(t, "one more", s, newest+1, numbered(max(first, newest-6), newest+1)...)
		}
	}
}

// P7.2: the numbers rise by 1; what was put is there, here and opened again.
func TestPut(t *testing.T) {
	for _, size := range []int{0, 1, 500, 4080, 4081, 5000} {
		d := disk.New(1 << 24)
		s := open(t, d)
		var texts []string
		for n := 1; n <= 30; n++ {
			texts = append(texts, strconv.Itoa(n)+long(size))
			put(t, s, texts[n-1])
			wantDead(t, "put", s, false)
			last := texts[max(0, n-8):]
			wantKept(t, "put", s, n, last...)
			wantKept(t, "opened again", open(t, d.Copy()), n, last...)
			if n%7 == 0 {
				s = open(t, d)
			}
		}
	}
}

// P7.2: what is acknowledged lasts, whatever the power's failing keeps.
func TestPutLasts(t *testing.T) {
	for choice := range 4 {
		d := disk.New(1 << 24)
		s := open(t, d)
		for n := 1; n <= 20; n++ {
			put(t, s, long(n*100))
			names := d.Names()
			for _, name := range append(names, "") {
				if d.Loose(name) != 0 {
					t.Fatalf("%d: %q is loose", n, name)
				}
			}
			c := d.Copy()
			c.Crash(choice, choice, choice, choice, choice)
			c.Up()
			z := open(t, c)
			if text, e := z.Get(n); z.Newest() != n || text != long(n*100) || e != api.OK {
				t.Fatalf("%d: %d, %.20q, %v", n, z.Newest(), text, e)
			}
		}
	}
}

// P7.2: the log holds the records of the versions, and of the segments those that have a kept one.
func TestTrimmed(t *testing.T) {
	for _, x := range []struct{ size, puts, first int }{
		{5000, 8, 0}, {5000, 9, 1}, {5000, 30, 22}, {2000, 30, 22}, {1000, 30, 20}, {1000, 32, 24}, {0, 200, 0},
	} {
		d := disk.New(1 << 24)
		s := open(t, d)
		for range x.puts {
			put(t, s, long(x.size))
		}
		l, e := wal.Open(d, store.Limit)
		ok(t, e)
		if l.First() != x.first || l.Next() != x.puts {
			t.Errorf("%d texts of %d bytes: from %d to %d, want from %d", x.puts, x.size, l.First(), l.Next(), x.first)
		}
		for i, r := range l.All() {
			if string(r) != string(record(t, x.first+i+1, long(x.size))) {
				t.Errorf("record %d: %.20q", x.first+i, r)
			}
		}
	}
	// what Open found ahead of the kept ones is trimmed, too, but not by Open
	var l [][]byte
	for n := 1; n <= 20; n++ {
		l = append(l, record(t, n, long(5000)))
	}
	d := diskOf(t, l...)
	s := open(t, d)
	if n := len(d.Names()); n != 20 {
		t.Errorf("opened: %d segments", n)
	}
	put(t, s, "")
	if l := d.Names(); len(l) != 8 || l[0] != "log.00000013" {
		t.Errorf("put: %q", l)
	}
}

// P7.2, P7.7: texts and numbers at their bounds.
func TestTooLong(t *testing.T) {
	d := disk.New(1 << 24)
	s := open(t, d)
	put(t, s, "a", long(api.MaxText))
	for _, n := range []int{api.MaxText + 1, api.MaxText + 2, 1 << 17, 1 << 20} {
		wantRefused(t, "too long", s, long(n), api.ErrLong)
		wantDead(t, "too long", s, false)
		wantKept(t, "too long", s, 2, "a", long(api.MaxText))
		wantKept(t, "too long, opened", open(t, d.Copy()), 2, "a", long(api.MaxText))
	}
	put(t, s, "c")

	d = diskOf(t, record(t, api.MaxVersions-1, "y"))
	s = open(t, d)
	put(t, s, "z")
	for _, text := range []string{"", "more", long(api.MaxText + 1)} {
		wantRefused(t, "no number left", s, text, api.ErrLong)
		wantDead(t, "no number left", s, false)
		wantKept(t, "no number left", s, api.MaxVersions, "y", "z")
		wantKept(t, "no number left, opened", open(t, d), api.MaxVersions, "y", "z")
	}
}

// P7.7: a log that has no number left refuses with ErrLong, and the store is not dead by it.
func TestNoRecordLeft(t *testing.T) {
	d := disk.New(1 << 20)
	ok(t, d.Create("log.99999999"), d.SyncDir())
	s := open(t, d)
	for range 3 {
		wantRefused(t, "no record left", s, "a", api.ErrLong)
		wantDead(t, "no record left", s, false)
		wantKept(t, "no record left", s, 0)
		wantKept(t, "no record left, opened", open(t, d), 0)
	}
}

// P7.7: no room for the bytes, in the last segment and in a new one; no room for the name.
func TestFull(t *testing.T) {
	for _, room := range []int{16, 100, 4000, 4096, 4100, 8000} {
		for _, size := range []int{1, 90, 4000, 5000, api.MaxText} {
			d := disk.New(room)
			s := open(t, d)
			var texts []string
			for n := range 300 {
				text := strconv.Itoa(n) + long(size*(n%3)/2)
				now := texts[max(0, len(texts)-8):]
				if _, e := s.Put(text); e == api.OK {
					texts = append(texts, text)
				} else if e == api.ErrFull || len(text) > api.MaxText && e == api.ErrLong {
					wantKept(t, "refused", s, len(texts), now...)
					wantKept(t, "refused, opened", open(t, d.Copy()), len(texts), now...)
				} else {
					t.Fatalf("room %d, a text of %d: %v", room, len(text), e)
				}
				wantDead(t, "full", s, false)
			}
			wantKept(t, "full", open(t, d), len(texts), texts[max(0, len(texts)-8):]...)
		}
	}

	d := disk.New(1 << 24)
	s := open(t, d)
	put(t, s, long(4000))
	for i := range disk.MaxFiles - 1 {
		ok(t, d.Create("other."+strconv.Itoa(i)))
	}
	for range 3 {
		wantRefused(t, "no name left", s, long(4000), api.ErrFull)
		wantDead(t, "no name left", s, false)
		wantKept(t, "no name left", s, 1, long(4000))
		wantKept(t, "no name left, opened", open(t, d.Copy()), 1, long(4000))
	}
	put(t, s, "fits")
	ok(t, d.Remove("other.7"))
	put(t, s, long(4000))
	wantKept(t, "a name left", s, 3, long(4000), "fits", long(4000))
}

// P7.2, P7.3: a store that is dead by a Put answers questions as ahead of it; to Put it answers ErrWal first of all.
func TestDead(t *testing.T) {
	for after := range 5 { // Sync, Create, SyncDir, Write, Sync
		d := disk.New(1 << 24)
		s := open(t, d)
		put(t, s, "a", long(4000))
		d.Arm(after, 9, 9, 9, 9, 9)
		wantRefused(t, "the power fails", s, long(200), api.ErrDown)
		for range 2 {
			wantDead(t, "dead", s, true)
			wantKept(t, "dead", s, 2, "a", long(4000))
			wantRefused(t, "dead", s, "b", api.ErrWal)
			wantRefused(t, "dead, too long", s, long(api.MaxText+1), api.ErrWal)
			d.Up()
		}
		put(t, open(t, d), "c")
	}

	d := diskOf(t, record(t, api.MaxVersions-1, ""))
	s := open(t, d)
	d.Crash()
	wantDead(t, "the power failed elsewhere", s, false)
	wantRefused(t, "the power failed elsewhere", s, "", api.ErrDown)
	wantDead(t, "asked of a disk that is down", s, true)

	// another error than the power's
	d = disk.New(1 << 20)
	s = open(t, d)
	put(t, s, "a")
	ok(t, d.Remove("log.00000000"))
	wantRefused(t, "its file is gone", s, "b", api.ErrNoFile)
	wantDead(t, "its file is gone", s, true)
	wantKept(t, "its file is gone", s, 1, "a")
	wantRefused(t, "its file is gone", s, "b", api.ErrWal)

	// the first segment cannot be made
	d = disk.New(1 << 20)
	s = open(t, d)
	ok(t, d.Create("log.00000000"))
	wantRefused(t, "its name is taken", s, "a", api.ErrExists)
	wantDead(t, "its name is taken", s, true)
	wantKept(t, "its name is taken", s, 0)
}

// P7.2, P7.3: a Put that is dead by its Trim has answered OK: the version is there.
func TestDeadByTrim(t *testing.T) {
	start := func() (*disk.Disk, *store.Store) {
		d := disk.New(1 << 24)
		s := open(t, d)
		for n := 1; n <= 8; n++ {
			put(t, s, strconv.Itoa(n)+long(4090))
		}
		return d, s
	}
	want := func(what string, s *store.Store, dead bool) {
		t.Helper()
		wantDead(t, what, s, dead)
		var texts []string
		for n := 2; n <= 9; n++ {
			texts = append(texts, strconv.Itoa(n)+long(4090))
		}
		wantKept(t, what, s, 9, texts...)
	}
	for after := range 8 { // Sync, Create, SyncDir, Write, Sync; Remove, SyncDir
		for choice := range 2 {
			d, s := start()
			d.Arm(after, choice)
			n, e := s.Put("9" + long(4090))
			if after < 5 {
				if n != 0 || e != api.ErrDown {
					t.Errorf("behind %d operations: %d, %v", after, n, e)
				}
				continue
			}
			if n != 9 || e != api.OK {
				t.Errorf("behind %d operations: %d, %v", after, n, e)
			}
			want("trimmed", s, after < 7)
			if after < 7 {
				wantRefused(t, "dead", s, "", api.ErrWal)
				d.Up()
				want("opened again", open(t, d), false)
			}
		}
	}
	d, s := start()
	ok(t, d.Remove("log.00000000"))
	put(t, s, "9"+long(4090))
	want("nothing to trim", s, true)
}

// P7.1 to P7.3: of a nil store; and of one that nobody opened.
func TestNil(t *testing.T) {
	for _, s := range []*store.Store{nil, {}} {
		for _, text := range []string{"", "a", long(api.MaxText)} {
			wantRefused(t, "nil", s, text, api.ErrNil)
		}
		if s.Newest() != 0 || len(s.Kept()) != 0 || s.Dead() {
			t.Errorf("nil: %d, %v, %v", s.Newest(), s.Kept(), s.Dead())
		}
	}
	var s *store.Store
	wantRefused(t, "nil, too long", s, long(api.MaxText+1), api.ErrNil)
	for _, n := range []int{0, 1, -1} {
		if text, e := s.Get(n); text != "" || e != api.ErrNil {
			t.Errorf("Get(%d) of nil: %q, %v", n, text, e)
		}
	}
}

// P7.3: any text of bytes is told as it was put.
func TestAnyBytes(t *testing.T) {
	all := ""
	for i := range 256 {
		all += string([]byte{byte(i)})
	}
	d := disk.New(1 << 20)
	s := open(t, d)
	texts := []string{"", all, "\x00", "\xff\xfe", "", "\n"}
	put(t, s, texts...)
	wantKept(t, "any bytes", s, 6, texts...)
	wantKept(t, "any bytes, opened", open(t, d), 6, texts...)
}
