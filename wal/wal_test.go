package wal_test

import (
	"math"
	"slices"
	"strings"
	"testing"

	"turnpike/api"
	"turnpike/disk"
	"turnpike/sum"
	"turnpike/wal"
)

// ok: calls that must not be refused.
func ok(t *testing.T, l ...api.Errno) {
	t.Helper()
	for i, e := range l {
		if e != api.OK {
			t.Fatalf("call %d: %v", i, e)
		}
	}
}

func wantErr(t *testing.T, what string, got, want api.Errno) {
	t.Helper()
	if got != want {
		t.Errorf("%s: %v, want %v", what, got, want)
	}
}

// open: a log that must open.
func open(t *testing.T, d *disk.Disk, limit int) *wal.Log {
	t.Helper()
	l, e := wal.Open(d, limit)
	if l == nil || e != api.OK {
		t.Fatalf("Open: %v, %v", l, e)
	}
	return l
}

// add: records that must be appended, one behind the other.
func add(t *testing.T, l *wal.Log, records ...string) {
	t.Helper()
	for _, r := range records {
		next := l.Next()
		if n, e := l.Append([]byte(r)); n != next || e != api.OK {
			t.Fatalf("Append(%.20q): %d, %v, want %d", r, n, e, next)
		}
	}
}

// wantRefused: an Append that must be refused.
func wantRefused(t *testing.T, what string, l *wal.Log, p []byte, want api.Errno) {
	t.Helper()
	if n, e := l.Append(p); n != -1 || e != want {
		t.Errorf("%s: %d, %v, want -1, %v", what, n, e, want)
	}
}

// wantLog: the log has just these records, from that number on, whatever it is asked by.
func wantLog(t *testing.T, what string, l *wal.Log, first int, records ...string) {
	t.Helper()
	next := first + len(records)
	if l.First() != first || l.Next() != next {
		t.Errorf("%s: First %d, Next %d, want %d, %d", what, l.First(), l.Next(), first, next)
		return
	}
	all := l.All()
	if len(all) != len(records) {
		t.Errorf("%s: All has %d records, want %d", what, len(all), len(records))
		return
	}
	for i, r := range records {
		p, is := l.Get(first + i)
		if string(all[i]) != r || string(p) != r || !is {
			t.Errorf("%s: record %d: %.40q, %.40q, %v, want %.40q", what, first+i, all[i], p, is, r)
		}
	}
	for _, i := range []int{first - 1, next, next + 1, -1 - first, math.MinInt, math.MaxInt} {
		if p, is := l.Get(i); p != nil || is {
			t.Errorf("%s: Get(%d): %q, %v", what, i, p, is)
		}
	}
}

// frames: the frames of these payloads, one behind the other.
func frames(payloads ...string) string {
	b := ""
	for _, p := range payloads {
		f, _ := sum.Frame([]byte(p))
		b += string(f)
	}
	return b
}

// files: what each name has.
type files map[string]string

// diskOf: a disk that has these files, all of it lasting.
func diskOf(t *testing.T, l files) *disk.Disk {
	t.Helper()
	d := disk.New(1 << 24)
	for name, b := range l {
		ok(t, d.Create(name), d.Write(name, 0, []byte(b)), d.Sync(name))
	}
	ok(t, d.SyncDir())
	return d
}

// wantFiles: the disk has just these names, and each just these bytes.
func wantFiles(t *testing.T, what string, d *disk.Disk, want files) {
	t.Helper()
	names := d.Names()
	if len(names) != len(want) {
		t.Errorf("%s: the files %q, want %d", what, names, len(want))
	}
	for _, name := range names {
		b, e := d.Read(name)
		if w, is := want[name]; !is || string(b) != w || e != api.OK {
			t.Errorf("%s: %s: %.80q, %v, want %.80q, %v", what, name, b, e, w, is)
		}
	}
}

// wantLoose: so many loose changes the directory, and each of these files has.
func wantLoose(t *testing.T, what string, d *disk.Disk, want map[string]int) {
	t.Helper()
	for name, n := range want {
		if got := d.Loose(name); got != n {
			t.Errorf("%s: %q has %d loose changes, want %d", what, name, got, n)
		}
	}
}

func TestExamples(t *testing.T) {
	d := disk.New(1 << 20)
	l := open(t, d, 20)
	wantLog(t, "an empty disk", l, 0)
	add(t, l, "abc", "defgh", "x")
	wantFiles(t, "three records", d, files{"log.00000000": frames("abc"), "log.00000001": frames("defgh"), "log.00000002": frames("x")})
	wantLog(t, "three records", l, 0, "abc", "defgh", "x")
	ok(t, l.Trim(2))
	wantLog(t, "trimmed", l, 2, "x")
	wantErr(t, "above Next", l.Drop(4), api.ErrArg)
	ok(t, l.Drop(2))
	wantLog(t, "dropped", l, 2)
}

// P6.2, the limit: what just fits, one byte more, and a record that is longer than it by itself.
func TestLimit(t *testing.T) {
	for _, x := range []struct {
		limit   int
		records []string
		want    files
	}{
		{22, []string{"abc", "def"}, files{"log.00000000": frames("abc", "def")}},
		{21, []string{"abc", "def"}, files{"log.00000000": frames("abc"), "log.00000001": frames("def")}},
		{23, []string{"abc", "def"}, files{"log.00000000": frames("abc", "def")}},
		{1, []string{"", "", "a"}, files{"log.00000000": frames(""), "log.00000001": frames(""), "log.00000002": frames("a")}},
		{16, []string{"", "", ""}, files{"log.00000000": frames("", ""), "log.00000002": frames("")}},
		{17, []string{"", "", "", ""}, files{"log.00000000": frames("", ""), "log.00000002": frames("", "")}},
		{20, []string{"longer than the limit", "", ""}, files{"log.00000000": frames("longer than the limit"), "log.00000001": frames("", "")}},
		{20, []string{"", "longer than the limit", ""}, files{"log.00000000": frames(""), "log.00000001": frames("longer than the limit"), "log.00000002": frames("")}},
		{math.MaxInt, []string{"", "longer than the limit", ""}, files{"log.00000000": frames("", "longer than the limit", "")}},
	} {
		d := disk.New(1000)
		l := open(t, d, x.limit)
		add(t, l, x.records...)
		wantFiles(t, "behind the appends", d, x.want)
		wantLog(t, "behind the appends", l, 0, x.records...)
	}
}

// P6.2: all but the last segment are synced, and the directory; what is in the last one is loose till Sync.
func TestWhatAnAppendSyncs(t *testing.T) {
	d := disk.New(1000)
	l := open(t, d, 25)
	ok(t, l.Sync())
	wantFiles(t, "Sync of none", d, files{})
	add(t, l, "a")
	wantLoose(t, "one", d, map[string]int{"": 0, "log.00000000": 1})
	add(t, l, "b")
	wantLoose(t, "two", d, map[string]int{"": 0, "log.00000000": 2})
	add(t, l, "c")
	wantLoose(t, "three", d, map[string]int{"": 0, "log.00000000": 0, "log.00000002": 1})
	ok(t, l.Sync())
	wantLoose(t, "synced", d, map[string]int{"": 0, "log.00000000": 0, "log.00000002": 0})
	add(t, l, "d", "e")
	wantLoose(t, "five", d, map[string]int{"": 0, "log.00000000": 0, "log.00000002": 0, "log.00000004": 1})
}

// wantOperations: the call takes just so many operations of the disk. With the power failing in any of them it answers ErrDown, and the log is dead, with the records that it had.
func wantOperations(t *testing.T, what string, d *disk.Disk, limit, want int, do func(l *wal.Log) api.Errno) {
	t.Helper()
	had := open(t, d.Copy(), limit)
	var records []string
	for _, p := range had.All() {
		records = append(records, string(p))
	}
	for after := range want + 1 {
		c := d.Copy()
		l := open(t, c, limit)
		c.Arm(after)
		e := do(l)
		if after == want {
			wantErr(t, what, e, api.OK)
			if l.Dead() || c.Down() {
				t.Errorf("%s: there are more than %d operations", what, want)
			}
			return
		}
		wantErr(t, what, e, api.ErrDown)
		c.Up()
		wantDead(t, what, l)
		wantLog(t, what, l, had.First(), records...)
	}
}

// wantDead: every call but questions answers ErrWal, whatever else it could.
func wantDead(t *testing.T, what string, l *wal.Log) {
	t.Helper()
	wantRefused(t, what, l, []byte("x"), api.ErrWal)
	wantRefused(t, what, l, make([]byte, sum.MaxRecord+1), api.ErrWal)
	wantErr(t, what+": Sync", l.Sync(), api.ErrWal)
	for _, i := range []int{l.First(), l.Next(), -1, math.MaxInt, math.MinInt} {
		wantErr(t, what+": Drop", l.Drop(i), api.ErrWal)
		wantErr(t, what+": Trim", l.Trim(i), api.ErrWal)
	}
	if !l.Dead() {
		t.Errorf("%s: not dead", what)
	}
}

func appends(p string) func(l *wal.Log) api.Errno {
	return func(l *wal.Log) api.Errno {
		n, e := l.Append([]byte(p))
		if e == api.OK && n != l.Next()-1 || e != api.OK && n != -1 {
			return api.ErrArg
		}
		return e
	}
}

func drops(from int) func(l *wal.Log) api.Errno {
	return func(l *wal.Log) api.Errno { return l.Drop(from) }
}

func trims(before int) func(l *wal.Log) api.Errno {
	return func(l *wal.Log) api.Errno { return l.Trim(before) }
}

// P6.2 to P6.4: how many operations each call takes.
func TestOperations(t *testing.T) {
	none := disk.New(1000)
	three := diskOf(t, files{"log.00000005": frames("a", "b"), "log.00000007": frames("c", "d"), "log.00000009": frames("e")})
	wantOperations(t, "Append, no segment", none, 20, 3, appends("a"))
	wantOperations(t, "Append, in the last segment", three, 20, 1, appends("f"))
	wantOperations(t, "Append, a new segment", three, 20, 4, appends("1234"))
	wantOperations(t, "Sync, no segment", none, 20, 0, (*wal.Log).Sync)
	wantOperations(t, "Sync", three, 20, 1, (*wal.Log).Sync)
	wantOperations(t, "Drop, no segment", none, 20, 0, drops(0))
	wantOperations(t, "Drop of nothing", three, 20, 2, drops(10))
	wantOperations(t, "Drop of a segment", three, 20, 4, drops(9))
	wantOperations(t, "Drop within a segment", three, 20, 4, drops(8))
	wantOperations(t, "Drop of two segments", three, 20, 5, drops(7))
	wantOperations(t, "Drop within the first segment", three, 20, 5, drops(6))
	wantOperations(t, "Drop of all", three, 20, 5, drops(5))
	wantOperations(t, "Trim, no segment", none, 20, 0, trims(0))
	wantOperations(t, "Trim of nothing", three, 20, 0, trims(6))
	wantOperations(t, "Trim of a segment", three, 20, 2, trims(7))
	wantOperations(t, "Trim of a segment, and within one", three, 20, 2, trims(8))
	wantOperations(t, "Trim of two", three, 20, 3, trims(9))
	wantOperations(t, "Trim of all but the last", three, 20, 3, trims(10))
}

// P6.4: in which order files are removed, cut and synced: what is left where the power fails in one operation after the other, and all that is loose of the directory is kept, but nothing that is loose of a file.
func TestOrderOfOperations(t *testing.T) {
	ab, cd, e := frames("a", "b"), frames("c", "d"), frames("e")
	left := func(zero, two, four string) files {
		l := files{"log.00000000": zero, "log.00000002": two, "log.00000004": four}
		for name, b := range l {
			if b == "gone" {
				delete(l, name)
			}
		}
		return l
	}
	for what, x := range map[string]struct {
		do   func(l *wal.Log) api.Errno
		want []files
	}{
		"Drop": {drops(1), []files{left(ab, cd, "gone"), left(ab, "gone", "gone"), left(ab, "gone", "gone"), left(ab, "gone", "gone"), left(frames("a"), "gone", "gone")}},
		"Trim": {trims(4), []files{left("gone", cd, e), left("gone", "gone", e), left("gone", "gone", e)}},
	} {
		for after, want := range x.want {
			d := diskOf(t, left(ab, cd, e))
			l := open(t, d, 20)
			d.Arm(after, -1)
			wantErr(t, what, x.do(l), api.ErrDown)
			d.Up()
			wantFiles(t, what, d, want)
		}
	}
}

// P6.4: each number of a log, and those just off it.
func TestDrop(t *testing.T) {
	ab, cd := frames("a", "b"), frames("c", "d")
	for _, x := range []struct {
		from    int
		records string
		want    files
	}{
		{5, "", files{"log.00000005": ""}},
		{6, "a", files{"log.00000005": frames("a")}},
		{7, "a b", files{"log.00000005": ab}},
		{8, "a b c", files{"log.00000005": ab, "log.00000007": frames("c")}},
		{9, "a b c d", files{"log.00000005": ab, "log.00000007": cd}},
		{10, "a b c d e", files{"log.00000005": ab, "log.00000007": cd, "log.00000009": frames("e")}},
	} {
		d := diskOf(t, files{"log.00000005": ab, "log.00000007": cd, "log.00000009": frames("e"), "another": "1"})
		l := open(t, d, 20)
		for _, i := range []int{4, 11, 0, -1, math.MinInt, math.MaxInt} {
			wantErr(t, "off the log", l.Drop(i), api.ErrArg)
		}
		wantLog(t, "refused", l, 5, "a", "b", "c", "d", "e")
		ok(t, l.Drop(x.from))
		records := strings.Fields(x.records)
		x.want["another"] = "1"
		wantLog(t, "dropped", l, 5, records...)
		wantFiles(t, "dropped", d, x.want)
		wantLoose(t, "dropped", d, map[string]int{"": 0, "log.00000005": 0, "log.00000007": 0, "log.00000009": 0})
		wantErr(t, "above Next", l.Drop(x.from+1), api.ErrArg)
		add(t, l, "new", "newer")
		wantLog(t, "gone on", l, 5, append(records, "new", "newer")...)
		wantLog(t, "gone on, opened again", open(t, d, 20), 5, append(records, "new", "newer")...)
	}
}

// P6.4: each number of a log, and those just off it.
func TestTrim(t *testing.T) {
	ab, cd := frames("a", "b"), frames("c", "d")
	for _, x := range []struct {
		before, first int
		records       string
		want          files
	}{
		{5, 5, "a b c d e", files{"log.00000005": ab, "log.00000007": cd, "log.00000009": frames("e")}},
		{6, 5, "a b c d e", files{"log.00000005": ab, "log.00000007": cd, "log.00000009": frames("e")}},
		{7, 7, "c d e", files{"log.00000007": cd, "log.00000009": frames("e")}},
		{8, 7, "c d e", files{"log.00000007": cd, "log.00000009": frames("e")}},
		{9, 9, "e", files{"log.00000009": frames("e")}},
		{10, 9, "e", files{"log.00000009": frames("e")}},
	} {
		d := diskOf(t, files{"log.00000005": ab, "log.00000007": cd, "log.00000009": frames("e"), "another": "1"})
		l := open(t, d, 20)
		for _, i := range []int{4, 11, 0, -1, math.MinInt, math.MaxInt} {
			wantErr(t, "off the log", l.Trim(i), api.ErrArg)
		}
		wantLog(t, "refused", l, 5, "a", "b", "c", "d", "e")
		ok(t, l.Trim(x.before))
		records := strings.Fields(x.records)
		x.want["another"] = "1"
		wantLog(t, "trimmed", l, x.first, records...)
		wantFiles(t, "trimmed", d, x.want)
		wantLoose(t, "trimmed", d, map[string]int{"": 0})
		wantErr(t, "below First", l.Trim(x.first-1), api.ErrArg)
		wantErr(t, "below First", l.Drop(x.first-1), api.ErrArg)
		add(t, l, "new", "newer")
		wantLog(t, "gone on", l, x.first, append(records, "new", "newer")...)
		wantLog(t, "gone on, opened again", open(t, d, 20), x.first, append(records, "new", "newer")...)
	}
}

// P6.2: a payload of MaxRecord bytes, and of one more.
func TestMaxRecord(t *testing.T) {
	d := disk.New(1 << 20)
	l := open(t, d, 20)
	big := strings.Repeat("b", sum.MaxRecord)
	for range 2 {
		wantRefused(t, "one more", l, []byte(big+"b"), api.ErrLong)
		wantRefused(t, "many more", l, make([]byte, 1<<20), api.ErrLong)
	}
	wantLog(t, "refused", l, 0)
	wantFiles(t, "refused", d, files{})
	add(t, l, big, "", big)
	wantLog(t, "taken", l, 0, big, "", big)
	wantLog(t, "opened again", open(t, d, 20), 0, big, "", big)
}

// P6.2: the number 99999998 is the last one.
func TestLastNumber(t *testing.T) {
	for first, more := range map[string]int{"99999999": 0, "99999998": 1, "99999997": 2} {
		d := diskOf(t, files{"log." + first: ""})
		l := open(t, d, 10)
		for range more {
			add(t, l, "r")
		}
		if l.Next() != 99999999 {
			t.Fatal(l.Next())
		}
		names := d.Names()
		wantRefused(t, "no number", l, nil, api.ErrLong)
		wantRefused(t, "no number", l, make([]byte, sum.MaxRecord+1), api.ErrLong)
		if l.Dead() || !slices.Equal(d.Names(), names) {
			t.Errorf("refused: dead %v, %q", l.Dead(), d.Names())
		}
		ok(t, l.Sync(), l.Drop(l.Next()), l.Trim(l.Next()))
		if more > 0 {
			ok(t, l.Drop(99999998))
			add(t, l, "again")
		}
	}
	l := open(t, diskOf(t, files{"log.99999999": frames("a", "b")}), 100)
	wantLog(t, "beyond", l, 99999999, "a", "b")
	wantRefused(t, "beyond", l, nil, api.ErrLong)
}

// P6.2: where there is no room for the frame the record is not there, the log isn't dead, and a segment that was made stays.
func TestFull(t *testing.T) {
	d := disk.New(40)
	l := open(t, d, 20)
	add(t, l, "abcdefgh") // 16
	wantRefused(t, "full", l, make([]byte, 17), api.ErrFull)
	wantFiles(t, "full", d, files{"log.00000000": frames("abcdefgh"), "log.00000001": ""})
	wantLoose(t, "full", d, map[string]int{"": 0, "log.00000000": 0, "log.00000001": 0})
	wantLog(t, "full", l, 0, "abcdefgh")
	wantRefused(t, "full", l, make([]byte, 17), api.ErrFull)
	ok(t, l.Sync())
	add(t, l, "0123456789abcdef") // 24
	wantFiles(t, "in the segment that was made", d, files{"log.00000000": frames("abcdefgh"), "log.00000001": frames("0123456789abcdef")})
	wantRefused(t, "full", l, nil, api.ErrFull)
	wantFiles(t, "full again", d, files{"log.00000000": frames("abcdefgh"), "log.00000001": frames("0123456789abcdef"), "log.00000002": ""})
	wantLog(t, "full again", l, 0, "abcdefgh", "0123456789abcdef")
	if l.Dead() {
		t.Error("dead")
	}
	wantLog(t, "opened again", open(t, d.Copy(), 20), 0, "abcdefgh", "0123456789abcdef")
	c := d.Copy()
	open(t, c, 20)
	wantFiles(t, "opened again", c, files{"log.00000000": frames("abcdefgh"), "log.00000001": frames("0123456789abcdef")})
	ok(t, l.Trim(1))
	add(t, l, "x")
	wantLog(t, "trimmed", l, 1, "0123456789abcdef", "x")
}

// P6.4: a segment that was made and has no record yet: it is dropped, and may be all that a trim leaves.
func TestEmptyLastSegment(t *testing.T) {
	full := func() (*disk.Disk, *wal.Log) {
		d := disk.New(18)
		l := open(t, d, 18)
		add(t, l, "a", "b")
		wantRefused(t, "full", l, []byte("c"), api.ErrFull)
		wantFiles(t, "full", d, files{"log.00000000": frames("a", "b"), "log.00000002": ""})
		return d, l
	}
	d, l := full()
	ok(t, l.Drop(2))
	wantFiles(t, "dropped", d, files{"log.00000000": frames("a", "b")})
	wantLog(t, "dropped", l, 0, "a", "b")
	ok(t, l.Drop(1))
	add(t, l, "B")
	wantFiles(t, "gone on", d, files{"log.00000000": frames("a", "B")})

	d, l = full()
	ok(t, l.Trim(2))
	wantFiles(t, "trimmed", d, files{"log.00000002": ""})
	wantLog(t, "trimmed", l, 2)
	wantLog(t, "trimmed, opened again", open(t, d.Copy(), 18), 2)
	ok(t, l.Trim(2), l.Drop(2))
	wantErr(t, "below First", l.Trim(1), api.ErrArg)
	add(t, l, "c", "d")
	wantLog(t, "gone on", l, 2, "c", "d")
	wantFiles(t, "gone on", d, files{"log.00000002": frames("c", "d")})

	d, _ = full()
	wantLog(t, "opened again", open(t, d, 18), 0, "a", "b")
	wantFiles(t, "opened again", d, files{"log.00000000": frames("a", "b")})
}

// P6.2: where there are MaxFiles names no segment can be made; the log isn't dead.
func TestFullOfNames(t *testing.T) {
	d := disk.New(10000)
	l := open(t, d, 1)
	var records []string
	for range disk.MaxFiles {
		records = append(records, "r")
	}
	add(t, l, records...)
	wantRefused(t, "no name", l, []byte("r"), api.ErrFull)
	wantLog(t, "full", l, 0, records...)
	if l.Dead() || len(d.Names()) != disk.MaxFiles {
		t.Error(l.Dead(), len(d.Names()))
	}
	wantLoose(t, "the last one was synced", d, map[string]int{"log.00000063": 0})
	ok(t, l.Trim(2))
	add(t, l, "x", "y")
	wantLog(t, "trimmed", l, 2, append(records[2:], "x", "y")...)
}

// P6.2: a file has at most MaxFile bytes, whatever the limit: the log isn't dead.
func TestFullFile(t *testing.T) {
	d := disk.New(1 << 22)
	l := open(t, d, 1<<22)
	big := strings.Repeat("b", sum.MaxRecord-8)
	var records []string
	for range 8 {
		records = append(records, big)
	}
	add(t, l, records[:7]...)
	wantRefused(t, "one byte more", l, []byte(big+"b"), api.ErrLong)
	add(t, l, big)
	wantRefused(t, "full", l, nil, api.ErrLong)
	wantLog(t, "full", l, 0, records...)
	if l.Dead() || len(d.Names()) != 1 {
		t.Error(l.Dead(), d.Names())
	}
	ok(t, l.Sync(), l.Drop(7))
	add(t, l, "x")
	wantLog(t, "dropped", l, 0, append(records[:7], "x")...)
}

// Dead: whatever fails with anything else than ErrFull and ErrLong, the power or not.
func TestDead(t *testing.T) {
	start := files{"log.00000000": frames("a"), "log.00000001": frames("b"), "log.00000002": frames("c")}
	for what, x := range map[string]struct {
		spoil func(d *disk.Disk) api.Errno
		do    func(l *wal.Log) api.Errno
		want  api.Errno
	}{
		"Append, the file gone":       {func(d *disk.Disk) api.Errno { return d.Remove("log.00000002") }, appends("d"), api.ErrNoFile},
		"Append, the file short":      {func(d *disk.Disk) api.Errno { return d.Cut("log.00000002", 3) }, appends("d"), api.ErrArg},
		"Append, the new one there":   {func(d *disk.Disk) api.Errno { return d.Create("log.00000003") }, appends("longer"), api.ErrExists},
		"Sync, the file gone":         {func(d *disk.Disk) api.Errno { return d.Remove("log.00000002") }, (*wal.Log).Sync, api.ErrNoFile},
		"Drop, the file gone":         {func(d *disk.Disk) api.Errno { return d.Remove("log.00000001") }, drops(0), api.ErrNoFile},
		"Drop, the file short":        {func(d *disk.Disk) api.Errno { return d.Cut("log.00000000", 3) }, drops(1), api.ErrArg},
		"Trim, the file gone":         {func(d *disk.Disk) api.Errno { return d.Remove("log.00000001") }, trims(2), api.ErrNoFile},
		"Append, down":                {crash, appends("d"), api.ErrDown},
		"Append, a new segment, down": {crash, appends("longer"), api.ErrDown},
		"Sync, down":                  {crash, (*wal.Log).Sync, api.ErrDown},
		"Drop, down":                  {crash, drops(3), api.ErrDown},
		"Trim, down":                  {crash, trims(1), api.ErrDown},
	} {
		d := diskOf(t, start)
		l := open(t, d, 20)
		ok(t, x.spoil(d))
		wantErr(t, what, x.do(l), x.want)
		wantDead(t, what, l)
		wantLog(t, what, l, 0, "a", "b", "c")
		d.Up()
		wantDead(t, what+", up again", l)
		if open(t, d, 20).Dead() {
			t.Errorf("%s: dead, opened again", what)
		}
	}
}

func crash(d *disk.Disk) api.Errno {
	d.Crash()
	return api.OK
}

// What does not reach the disk doesn't make a log dead, even if the disk is down.
func TestRefusedAheadOfTheDisk(t *testing.T) {
	d := diskOf(t, files{"log.00000003": frames("a")})
	l := open(t, d, 20)
	d.Crash()
	wantRefused(t, "too long", l, make([]byte, sum.MaxRecord+1), api.ErrLong)
	wantErr(t, "above Next", l.Drop(5), api.ErrArg)
	wantErr(t, "below First", l.Trim(2), api.ErrArg)
	ok(t, l.Trim(4))
	if l.Dead() {
		t.Error("dead")
	}
	wantLog(t, "down", l, 3, "a")
	d.Up()
	add(t, l, "b")
	wantLog(t, "up again", l, 3, "a", "b")
}

// P0.1, P6.5: of a nil log, and of one that nobody opened.
func TestNil(t *testing.T) {
	var l *wal.Log
	wantRefused(t, "nil", l, nil, api.ErrNil)
	wantRefused(t, "nil", l, make([]byte, sum.MaxRecord+1), api.ErrNil)
	wantErr(t, "nil", l.Sync(), api.ErrNil)
	for _, i := range []int{0, -1, 1, math.MaxInt} {
		wantErr(t, "nil", l.Drop(i), api.ErrNil)
		wantErr(t, "nil", l.Trim(i), api.ErrNil)
	}
	wantLog(t, "nil", l, 0)
	if l.Dead() {
		t.Error("a nil log is dead")
	}
	l = &wal.Log{}
	wantLog(t, "zero", l, 0)
	ok(t, l.Sync(), l.Drop(0), l.Trim(0))
	wantErr(t, "zero", l.Drop(1), api.ErrArg)
	wantRefused(t, "zero", l, nil, api.ErrNil)
	wantDead(t, "zero", l)
}
