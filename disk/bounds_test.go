package disk_test

import (
	"math"
	"strconv"
	"strings"
	"testing"

	"turnpike/api"
	"turnpike/disk"
)

// byName: what each call that takes a name answers of it, by the call.
func byName(d *disk.Disk, name string) map[string]api.Errno {
	_, read := d.Read(name)
	_, size := d.Size(name)
	return map[string]api.Errno{
		"Read": read, "Size": size,
		"Write": d.Write(name, 0, []byte("x")), "Cut": d.Cut(name, 0), "Sync": d.Sync(name),
		"Rename": d.Rename(name, "to"), "Remove": d.Remove(name),
	}
}

// wantByName: every call that takes a name of a file that must be there answers that error.
func wantByName(t *testing.T, what string, d *disk.Disk, name string, want api.Errno) {
	t.Helper()
	for call, e := range byName(d, name) {
		wantErr(t, what+": "+call, e, want)
	}
}

// The names that may be: 1 to 64 bytes, each from 21 to 7e but '/'.
func TestNamesThatMayBe(t *testing.T) {
	for c := range 256 {
		x := string([]byte{byte(c)})
		for _, name := range []string{x, "a" + x, x + "a", "a" + x + "a"} {
			d, what := disk.New(0), strconv.Quote(name)
			ok(t, d.Create("there"))
			if c >= 0x21 && c <= 0x7e && c != '/' {
				wantErr(t, what+", not there yet", d.Remove(name), api.ErrNoFile)
				wantErr(t, what, d.Create(name), api.OK)
				continue
			}
			wantErr(t, what+": Create", d.Create(name), api.ErrArg)
			wantErr(t, what+": Rename to it", d.Rename("there", name), api.ErrArg)
			wantByName(t, what, d, name, api.ErrArg)
			wantFiles(t, what, d, files{"there": ""})
			wantLoose(t, what, d, map[string]int{"": 1, name: 0})
		}
	}
}

func TestNamesOfLengths(t *testing.T) {
	for _, n := range []int{0, 65, 66, 1000} {
		d, name := disk.New(0), strings.Repeat("n", n)
		wantErr(t, "Create", d.Create(name), api.ErrArg)
		wantErr(t, "Rename to it", d.Rename("z", name), api.ErrArg)
		wantByName(t, "a name of a wrong length", d, name, api.ErrArg)
	}
	for _, n := range []int{1, 2, 63, 64} {
		d, name := disk.New(1), strings.Repeat("n", n)
		ok(t, d.Create(name), d.Write(name, 0, []byte("x")))
		wantFiles(t, "a name of a right length", d, files{name: "x"})
		ok(t, d.Rename(name, "z"), d.Rename("z", name), d.Remove(name))
	}
}

// P3.3: over what stood there, and up to the end of p.
func TestWrite(t *testing.T) {
	for _, x := range []struct {
		at      int
		p, want string
	}{
		{0, "", "01234"}, {5, "", "01234"}, {3, "", "01234"}, {0, "a", "a1234"}, {2, "ab", "01ab4"}, {3, "ab", "012ab"},
		{4, "ab", "0123ab"}, {5, "a", "01234a"}, {5, "abcde", "01234abcde"}, {0, "abcdefghij", "abcdefghij"}, {0, "abcde", "abcde"},
	} {
		d := lasting(t, 10, files{"a": "01234", "b": ""})
		ok(t, d.Write("a", x.at, []byte(x.p)))
		wantFiles(t, x.want, d, files{"a": x.want, "b": ""})
	}
}

// P3.3: a place below 0, at the length, just above, and far off.
func TestPlaces(t *testing.T) {
	d := lasting(t, 100, files{"a": "01234", "none": ""})
	for _, at := range []int{-1, -2, 6, 7, math.MinInt, math.MaxInt, math.MinInt + 1, math.MaxInt - 1} {
		wantErr(t, "Write", d.Write("a", at, []byte("x")), api.ErrArg)
		wantErr(t, "Write of nothing", d.Write("a", at, nil), api.ErrArg)
		wantErr(t, "Cut", d.Cut("a", at), api.ErrArg)
	}
	for _, at := range []int{-1, 1} {
		wantErr(t, "Write, no bytes", d.Write("none", at, nil), api.ErrArg)
		wantErr(t, "Cut, no bytes", d.Cut("none", at), api.ErrArg)
	}
	wantFiles(t, "refused", d, files{"a": "01234", "none": ""})
	wantLoose(t, "refused", d, map[string]int{"": 0, "a": 0, "none": 0})
	ok(t, d.Cut("none", 0), d.Cut("a", 5))
	wantFiles(t, "cut to its length", d, files{"a": "01234", "none": ""})
	ok(t, d.Cut("a", 3))
	wantErr(t, "above the new length", d.Write("a", 4, []byte("x")), api.ErrArg)
	ok(t, d.Write("a", 3, []byte("x")))
	wantFiles(t, "cut, and written at the end", d, files{"a": "012x", "none": ""})
	ok(t, d.Cut("a", 1), d.Cut("a", 0))
	wantFiles(t, "cut to nothing", d, files{"a": "", "none": ""})
}

// P3.3: a file of MaxFile bytes, and one more.
func TestMaxFile(t *testing.T) {
	d := disk.New(4 * api.MaxFile)
	ok(t, d.Create("a"))
	wantErr(t, "one more at once", d.Write("a", 0, make([]byte, api.MaxFile+1)), api.ErrLong)
	ok(t, d.Write("a", 0, make([]byte, api.MaxFile-1)))
	wantErr(t, "two more", d.Write("a", api.MaxFile-1, []byte("xy")), api.ErrLong)
	ok(t, d.Write("a", api.MaxFile-1, []byte("x")))
	wantErr(t, "one more", d.Write("a", api.MaxFile, []byte("x")), api.ErrLong)
	wantErr(t, "over its end", d.Write("a", api.MaxFile-1, []byte("xy")), api.ErrLong)
	ok(t, d.Write("a", api.MaxFile, nil), d.Write("a", 0, make([]byte, api.MaxFile)), d.Write("a", 7, []byte("in it")))
	if n, e := d.Size("a"); n != api.MaxFile || e != api.OK {
		t.Errorf("%d, %v", n, e)
	}
	wantLoose(t, "a", d, map[string]int{"a": 5})
}

// P3.3: what just fills the room, and one more; the files that are named count, and they alone.
func TestRoom(t *testing.T) {
	d := disk.New(10)
	ok(t, d.Create("a"), d.Create("b"), d.Write("a", 0, []byte("aaaaaa")))
	wantErr(t, "one more", d.Write("b", 0, []byte("bbbbb")), api.ErrFull)
	ok(t, d.Write("b", 0, []byte("bbbb")))
	wantErr(t, "one more", d.Write("b", 4, []byte("b")), api.ErrFull)
	wantErr(t, "one more", d.Write("a", 5, []byte("aa")), api.ErrFull)
	ok(t, d.Write("a", 0, []byte("AAAAAA")), d.Write("b", 4, nil))
	wantFiles(t, "full", d, files{"a": "AAAAAA", "b": "bbbb"})
	ok(t, d.Cut("a", 5), d.Write("b", 4, []byte("b")))
	wantErr(t, "one more", d.Write("a", 5, []byte("a")), api.ErrFull)
	ok(t, d.Rename("b", "a"), d.Write("a", 5, []byte("ccccc")))
	wantErr(t, "one more", d.Write("a", 10, []byte("c")), api.ErrFull)
	ok(t, d.Remove("a"), d.Create("b"), d.Write("b", 0, []byte("0123456789")))
	wantErr(t, "one more", d.Write("b", 10, []byte("c")), api.ErrFull)
	wantFiles(t, "in the end", d, files{"b": "0123456789"})
}

// P3.3: above the room, where a crash undid a cut, what makes the files no longer is written all the same.
func TestAboveTheRoom(t *testing.T) {
	d := lasting(t, 10, files{"a": "aaaaaa", "b": "bbbb"})
	ok(t, d.Cut("a", 0), d.Write("b", 4, []byte("BBBBBB")), d.Sync("b"))
	d = behind(d)
	wantFiles(t, "above", d, files{"a": "aaaaaa", "b": "bbbbBBBBBB"})
	wantErr(t, "longer", d.Write("a", 5, []byte("xx")), api.ErrFull)
	wantErr(t, "longer", d.Write("b", 10, []byte("x")), api.ErrFull)
	ok(t, d.Write("a", 5, []byte("x")), d.Write("a", 6, nil), d.Write("b", 0, []byte("0123456789")))
	ok(t, d.Cut("a", 1))
	wantErr(t, "longer, still above", d.Write("a", 1, []byte("x")), api.ErrFull)
	ok(t, d.Cut("b", 8), d.Write("a", 1, []byte("x")))
	wantErr(t, "full", d.Write("a", 2, []byte("x")), api.ErrFull)
	wantFiles(t, "in the end", d, files{"a": "ax", "b": "01234567"})
}

// The order in which errors are looked for: each that applies together with those behind it.
func TestOrderOfErrors(t *testing.T) {
	var none *disk.Disk
	down := lasting(t, 1, files{"a": "x"})
	down.Crash()
	for _, name := range []string{"", "a/b", "z", "a"} {
		wantByName(t, "nil", none, name, api.ErrNil)
		wantErr(t, "nil", none.Create(name), api.ErrNil)
		wantErr(t, "nil", none.Rename("a", name), api.ErrNil)
		wantErr(t, "nil", none.Write(name, -1, make([]byte, api.MaxFile+1)), api.ErrNil)
		wantByName(t, "down", down, name, api.ErrDown)
		wantErr(t, "down", down.Create(name), api.ErrDown)
		wantErr(t, "down", down.Rename("a", name), api.ErrDown)
		wantErr(t, "down", down.Write(name, -1, make([]byte, api.MaxFile+1)), api.ErrDown)
		wantErr(t, "down", down.Cut(name, -1), api.ErrDown)
	}
	wantErr(t, "nil", none.SyncDir(), api.ErrNil)
	wantErr(t, "down", down.SyncDir(), api.ErrDown)

	d, long := lasting(t, 1, files{"a": "x"}), make([]byte, api.MaxFile+1)
	wantErr(t, "a name, and no file", d.Rename("z", "a/b"), api.ErrArg)
	wantErr(t, "a name, and no file", d.Rename("a/b", "z"), api.ErrArg)
	wantErr(t, "a name, and no file", d.Rename("z", ""), api.ErrArg)
	wantErr(t, "no file, and a place", d.Write("z", -1, long), api.ErrNoFile)
	wantErr(t, "no file, and a place", d.Cut("z", -1), api.ErrNoFile)
	wantErr(t, "no file, long", d.Write("z", 0, long), api.ErrNoFile)
	wantErr(t, "a place, long", d.Write("a", 2, long), api.ErrArg)
	wantErr(t, "a place, full", d.Write("a", 2, []byte("x")), api.ErrArg)
	wantErr(t, "long, full", d.Write("a", 0, long), api.ErrLong)
	wantErr(t, "long, full", d.Write("a", 1, long[1:]), api.ErrLong)
	wantErr(t, "full", d.Write("a", 0, long[1:]), api.ErrFull)
	wantFiles(t, "refused", d, files{"a": "x"})
	wantLoose(t, "refused", d, map[string]int{"": 0, "a": 0})
}

// P0.2: beside an error nothing.
func TestNothingBesideAnError(t *testing.T) {
	var none *disk.Disk
	down := lasting(t, 1, files{"a": "x"})
	down.Crash()
	for _, d := range []*disk.Disk{none, down, disk.New(1)} {
		for _, name := range []string{"a", "a/b"} {
			if b, e := d.Read(name); b != nil || e == api.OK {
				t.Errorf("Read: %q, %v", b, e)
			}
			if n, e := d.Size(name); n != 0 || e == api.OK {
				t.Errorf("Size: %d, %v", n, e)
			}
		}
	}
}
