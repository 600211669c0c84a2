package disk_test

import (
	"runtime"
	"slices"
	"testing"

	"turnpike/api"
	"turnpike/disk"
	"turnpike/spare"
)

// P3.12: what is handed in is not changed, the spare room behind it neither.
func TestHandedInIsNotChanged(t *testing.T) {
	d := lasting(t, 100, files{"a": "0123456789"})
	for _, at := range []int{0, 4, 8, 10, 11} {
		p, all := spare.List([]byte("abc"), 0xa5)
		before := slices.Clone(all)
		d.Write("a", at, p)
		d.Write("a", 0, []byte("another"))
		d.Cut("a", 10)
		d.Sync("a")
		if !slices.Equal(all, before) {
			t.Errorf("bytes were changed: %q", all)
		}
	}
	choices, all := spare.List([]int{7, -8, 9}, -5)
	before := slices.Clone(all)
	ok(t, d.Write("a", 0, []byte("zz")))
	d.Copy().Crash(choices...)
	d.Arm(0, choices...)
	d.Remove("a")
	if !slices.Equal(all, before) {
		t.Errorf("choices were changed: %v", all)
	}
}

// P3.12: what is handed in is not kept: neither bytes, now or behind a crash, nor choices.
func TestHandedInIsNotKept(t *testing.T) {
	for _, synced := range []bool{false, true} {
		d := disk.New(10)
		p, _ := spare.List([]byte("abc"), 0xa5)
		ok(t, d.Create("a"), d.Write("a", 0, p))
		if synced {
			ok(t, d.Sync("a"))
		}
		spare.Fill(p, 0x5a)
		wantFiles(t, "the bytes changed", d, files{"a": "abc"})
		wantFiles(t, "the bytes changed, behind a crash", behind(d, 1, 1), files{"a": "abc"})
		ok(t, d.Sync("a"), d.SyncDir())
		wantFiles(t, "the bytes changed, synced", behind(d), files{"a": "abc"})
		ok(t, d.Write("a", 3, []byte("d")))
		wantFiles(t, "written behind it", d, files{"a": "abcd"})
	}
	d := lasting(t, 10, files{"a": "abc"})
	choices, _ := spare.List([]int{0, 0, 2}, 0)
	d.Arm(0, choices...)
	spare.Fill(choices, 0)
	wantErr(t, "armed", d.Write("a", 0, []byte("ABC")), api.ErrDown)
	d.Up()
	wantFiles(t, "the choices changed", d, files{"a": "ABc"})
}

// P3.12: what is answered is new memory.
func TestAnswersAreNewMemory(t *testing.T) {
	d := lasting(t, 10, files{"a": "abc", "b": "", "c": "c"})
	again := func(what string) {
		t.Helper()
		for range 2 {
			b, e := d.Read("a")
			ok(t, e)
			spare.Fill(b, 0x5a)
			spare.Fill(d.Names(), "spoilt")
			b, e = d.Read("b")
			ok(t, e)
			spare.Fill(b, 0x5a)
			wantFiles(t, what, d, files{"a": "abc", "b": "", "c": "c"})
		}
	}
	again("lasting")
	ok(t, d.Write("a", 0, []byte("a")), d.Write("b", 0, nil))
	again("loose")
	d = behind(d)
	again("behind a crash")
	b, _ := d.Read("a")
	ok(t, d.Write("a", 0, []byte("ABC")), d.Sync("a"))
	if string(b) != "abc" {
		t.Errorf("an answer changed with the file: %q", b)
	}
}

// P0.4: nothing is kept of files that no name can come to name any more, nor of changes that last.
func TestNothingMoreIsKept(t *testing.T) {
	big := make([]byte, api.MaxFile)
	for what, turn := range map[string]func(d *disk.Disk){
		"removed": func(d *disk.Disk) {
			ok(t, d.Create("b"), d.Write("b", 0, big), d.Remove("b"), d.SyncDir())
		},
		"renamed over": func(d *disk.Disk) {
			ok(t, d.Create("b"), d.Write("b", 0, big), d.Rename("b", "a"), d.SyncDir())
		},
		"not named behind a crash": func(d *disk.Disk) {
			ok(t, d.Create("b"), d.Write("b", 0, big))
			d.Crash()
			d.Up()
		},
		"written and synced": func(d *disk.Disk) {
			ok(t, d.Write("a", 0, big), d.Sync("a"))
		},
		"written and crashed": func(d *disk.Disk) {
			ok(t, d.Write("a", 0, big))
			d.Crash(0, 1)
			d.Up()
		},
	} {
		d := lasting(t, 4*api.MaxFile, files{"a": ""})
		before := heap()
		for range 30 {
			turn(d)
		}
		if more := heap() - before; more > 10*api.MaxFile {
			t.Errorf("%s: %d bytes more are kept", what, more)
		}
		runtime.KeepAlive(d)
	}
}

// heap: how many bytes are held.
func heap() int {
	var m runtime.MemStats
	runtime.GC()
	runtime.ReadMemStats(&m)
	return int(m.HeapAlloc)
}

// P3.8: a copy has the same files, loose changes, arm and state, and room.
func TestCopy(t *testing.T) {
	d := restless(t)
	d.Arm(1, 2, 1)
	c := d.Copy()
	wantFiles(t, "a copy", c, files{"a": "aX", "b": "bb", "c": "ccc", "d": ""})
	wantLoose(t, "a copy", c, map[string]int{"": 2, "a": 2, "b": 0, "c": 1, "d": 0})
	wantErr(t, "its room", c.Write("b", 2, make([]byte, 94)), api.ErrFull)
	ok(t, c.Write("b", 2, make([]byte, 93)))
	wantErr(t, "its arm", c.Cut("b", 0), api.ErrDown)
	down := c.Copy()
	if !down.Down() || d.Down() {
		t.Errorf("a copy of one that is down: %v, and the first one: %v", down.Down(), d.Down())
	}
	down.Up()
	if !c.Down() {
		t.Errorf("up with its copy")
	}
	wantFiles(t, "down, copied, up", down, files{"a": "aXYZ!", "b": "bb", "c": "", "d": ""})
	ok(t, d.Sync("b"))
	wantErr(t, "the first one's arm", d.Sync("b"), api.ErrDown)
	d.Up()
	wantFiles(t, "the first one", d, files{"a": "aXYZ!", "b": "bb", "c": "", "d": ""})
}

// P3.8: neither of both is changed with the other, whichever is changed first.
func TestCopiesAreApart(t *testing.T) {
	was := files{"a": "aX", "b": "bb", "c": "ccc", "d": ""}
	loose := map[string]int{"": 2, "a": 2, "b": 0, "c": 1, "d": 0}
	unrest := func(d *disk.Disk, x string) {
		ok(t, d.Write("a", 0, []byte(x)), d.Write("b", 0, []byte(x)), d.Write("c", 1, []byte(x+x+x)), d.Create(x), d.Rename("b", "d"), d.Remove("c"))
	}
	for _, turned := range []bool{false, true} {
		one := restless(t)
		two := one.Copy()
		if turned {
			one, two = two, one
		}
		unrest(one, "p")
		wantFiles(t, "the other", two, was)
		wantLoose(t, "the other", two, loose)
		unrest(two, "q")
		wantFiles(t, "one", one, files{"a": "pX", "d": "pb", "p": ""})
		wantFiles(t, "one, kept", behind(one, 5, 3, 1), files{"a": "pX", "d": "pb", "p": ""})
		wantFiles(t, "one, its last but one kept", behind(one, 4, 3, 2, 1), files{"a": "pX", "c": "cppp", "d": "pb", "p": ""})
		wantFiles(t, "the other, its last but one kept", behind(two, 4, 3, 2, 1), files{"a": "qX", "c": "cqqq", "d": "qb", "q": ""})
		ok(t, one.Sync("a"), one.Sync("d"), one.SyncDir())
		wantFiles(t, "the other, undone", behind(two), files{"a": "aaaa", "b": "bb"})
		one.Crash()
		wantFiles(t, "the other, while one is down", two, files{"a": "qX", "d": "qb", "q": ""})
		one.Up()
		wantFiles(t, "one, synced", one, files{"a": "pX", "d": "pb", "p": ""})
	}
}

// P3.8, P0.1: a nil disk.
func TestNilDisk(t *testing.T) {
	var d *disk.Disk
	wantByName(t, "nil", d, "a", api.ErrNil)
	wantErr(t, "nil", d.Create("a"), api.ErrNil)
	wantErr(t, "nil", d.SyncDir(), api.ErrNil)
	d.Crash()
	d.Crash(1, 2)
	d.Arm(0)
	d.Arm(1, 2)
	d.Up()
	if d.Down() || d.Copy() != nil || len(d.Names()) != 0 || d.Loose("") != 0 || d.Loose("a") != 0 {
		t.Errorf("nil: %v, %v, %v, %d, %d", d.Down(), d.Copy(), d.Names(), d.Loose(""), d.Loose("a"))
	}
}

// P0.1: a disk that New did not make is one without room.
func TestZeroDisk(t *testing.T) {
	for _, d := range []*disk.Disk{{}, new(disk.Disk).Copy(), behind(new(disk.Disk), 1)} {
		wantByName(t, "zero", d, "a", api.ErrNoFile)
		wantFiles(t, "zero", d, files{})
		ok(t, d.SyncDir(), d.Create("a"), d.Write("a", 0, nil), d.Rename("a", "b"), d.Sync("b"))
		wantErr(t, "no room", d.Write("b", 0, []byte("x")), api.ErrFull)
		wantFiles(t, "a file", d, files{"b": ""})
		wantFiles(t, "undone", behind(d), files{})
		wantFiles(t, "kept", behind(d, 1), files{"a": ""})
		ok(t, d.Remove("b"), d.SyncDir())
		d.Arm(0, 1)
		wantErr(t, "armed", d.Create("c"), api.ErrDown)
		d.Up()
		wantFiles(t, "up again", d, files{"c": ""})
	}
}
