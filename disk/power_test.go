package disk_test

import (
	"math"
	"testing"

	"turnpike/api"
	"turnpike/disk"
)

// restless: a has two loose changes, b none, c one; the directory has two, the creations of c and d.
func restless(t *testing.T) *disk.Disk {
	t.Helper()
	d := lasting(t, 100, files{"a": "aaaa", "b": "bb"})
	ok(t, d.Create("c"), d.Create("d"), d.Write("a", 1, []byte("XYZ!")), d.Cut("a", 2), d.Write("c", 0, []byte("ccc")))
	return d
}

// P3.7: choice by choice: the directory's, then each file's, by rising names, and one more where a write is not kept.
func TestChoices(t *testing.T) {
	d := restless(t)
	for _, x := range []struct {
		what    string
		choices []int
		want    files
	}{
		{"none", nil, files{"a": "aaaa", "b": "bb"}},
		{"no names", []int{0}, files{"a": "aaaa", "b": "bb"}},
		{"one name", []int{1}, files{"a": "aaaa", "b": "bb", "c": ""}},
		{"two names", []int{2}, files{"a": "aaaa", "b": "bb", "c": "", "d": ""}},
		{"modulo three", []int{3}, files{"a": "aaaa", "b": "bb"}},
		{"modulo three", []int{302}, files{"a": "aaaa", "b": "bb", "c": "", "d": ""}},
		{"below 0", []int{-1}, files{"a": "aaaa", "b": "bb", "c": "", "d": ""}},
		{"below 0", []int{-2}, files{"a": "aaaa", "b": "bb", "c": ""}},
		{"below 0", []int{-3}, files{"a": "aaaa", "b": "bb"}},
		{"below 0", []int{-4}, files{"a": "aaaa", "b": "bb", "c": "", "d": ""}},
		{"far below 0: -2^63 is 1 modulo 3", []int{math.MinInt}, files{"a": "aaaa", "b": "bb", "c": ""}},
		{"far above: 2^63 - 1 is 1 modulo 3", []int{math.MaxInt}, files{"a": "aaaa", "b": "bb", "c": ""}},
		{"a's write kept, its cut not: no further choice for the cut", []int{1, 1, 0, 1}, files{"a": "aXYZ!", "b": "bb", "c": "ccc"}},
		{"b's choice is taken, though nothing of it is loose", []int{1, 1, 7, 1}, files{"a": "aXYZ!", "b": "bb", "c": "ccc"}},
		{"both of a's kept", []int{1, 2, 0, 1}, files{"a": "aX", "b": "bb", "c": "ccc"}},
		{"a's write torn at no byte", []int{1, 0, 0, 0, 1}, files{"a": "aaaa", "b": "bb", "c": "ccc"}},
		{"a's write torn at its first byte", []int{1, 0, 1, 0, 1}, files{"a": "aXaa", "b": "bb", "c": "ccc"}},
		{"a's write torn at its last byte", []int{1, 0, 3, 0, 0, 2}, files{"a": "aXYZ", "b": "bb", "c": "cc"}},
		{"a's write not torn at all", []int{1, 0, 4, 0, 0, 1}, files{"a": "aXYZ!", "b": "bb", "c": "c"}},
		{"modulo five", []int{1, 0, 5, 0, 0, -1}, files{"a": "aaaa", "b": "bb", "c": "ccc"}},
		{"modulo five", []int{1, 0, -3, 0, 0, -2}, files{"a": "aXYa", "b": "bb", "c": "cc"}},
		{"d's choice, and more than are asked for", []int{2, 2, 0, 0, 1, 9, 8, 7, 6}, files{"a": "aX", "b": "bb", "c": "c", "d": ""}},
		{"c is not named: its choice is not taken", []int{0, 0, 2, 5, 1, 1}, files{"a": "aXYa", "b": "bb"}},
	} {
		e := behind(d, x.choices...)
		wantFiles(t, x.what, e, x.want)
		wantLoose(t, x.what, e, map[string]int{"": 0, "a": 0, "b": 0, "c": 0, "d": 0})
		wantFiles(t, x.what+", and all lasts", behind(e, 1, 1, 1, 1, 1), x.want)
	}
}

// P3.7: a write without bytes that is not kept takes its further choice too.
func TestWriteOfNothingTorn(t *testing.T) {
	d := lasting(t, 10, files{"a": "a", "b": "b"})
	ok(t, d.Write("a", 0, nil), d.Write("a", 0, []byte("A")), d.Write("b", 0, []byte("BBB")))
	wantFiles(t, "its choice is the third", behind(d, 0, 0, 8, 1), files{"a": "a", "b": "BBB"})
	wantFiles(t, "and b's the fourth", behind(d, 0, 0, 1, 0, 2), files{"a": "a", "b": "BB"})
	wantFiles(t, "kept", behind(d, 0, 1, 1, 1), files{"a": "A", "b": "BBB"})
	wantFiles(t, "both kept", behind(d, 0, 2, 0, 1), files{"a": "A", "b": "B"})
}

// P3.7: Crash, Down and Up.
func TestDownAndUp(t *testing.T) {
	d := restless(t)
	d.Up()
	wantLoose(t, "Up of one that is up", d, map[string]int{"": 2, "a": 2, "c": 1})
	if d.Down() {
		t.Errorf("down ahead of the crash")
	}
	d.Crash(2, 1, 0, 1)
	want := files{"a": "aXYZ!", "b": "bb", "c": "ccc", "d": ""}
	if !d.Down() || len(d.Names()) != 0 {
		t.Errorf("down: %v, %v", d.Down(), d.Names())
	}
	wantLoose(t, "down", d, map[string]int{"": 0, "a": 0, "b": 0, "z": 0})
	wantByName(t, "down", d, "a", api.ErrDown)
	wantErr(t, "down", d.Create("z"), api.ErrDown)
	wantErr(t, "down", d.SyncDir(), api.ErrDown)
	d.Crash(0)
	d.Crash()
	if !d.Down() {
		t.Errorf("a crash of one that is down")
	}
	d.Up()
	d.Up()
	if d.Down() {
		t.Errorf("up, and down")
	}
	wantFiles(t, "up again", d, want)
	d.Crash()
	d.Up()
	wantFiles(t, "once more", d, want)
	ok(t, d.Write("a", 0, []byte("-")), d.Create("z"), d.Remove("b"))
	wantFiles(t, "changed and not kept", behind(d), want)
	wantFiles(t, "changed and kept", behind(d, 2, 1), files{"a": "-XYZ!", "c": "ccc", "d": "", "z": ""})
}

// operations: each of them, not refused on a disk as restless makes it.
func operations() map[string]func(d *disk.Disk) api.Errno {
	return map[string]func(d *disk.Disk) api.Errno{
		"Create":  func(d *disk.Disk) api.Errno { return d.Create("new") },
		"Write":   func(d *disk.Disk) api.Errno { return d.Write("b", 2, []byte("12")) },
		"Cut":     func(d *disk.Disk) api.Errno { return d.Cut("b", 1) },
		"Sync":    func(d *disk.Disk) api.Errno { return d.Sync("a") },
		"Rename":  func(d *disk.Disk) api.Errno { return d.Rename("b", "a") },
		"Remove":  func(d *disk.Disk) api.Errno { return d.Remove("b") },
		"SyncDir": func(d *disk.Disk) api.Errno { return d.SyncDir() },
	}
}

// P3.7: an arm that goes off in each operation: it is done, its change loose; a Sync and a SyncDir do nothing.
func TestArmGoesOff(t *testing.T) {
	for _, x := range []struct {
		call    string
		choices []int
		want    files
	}{
		{"Create", []int{3}, files{"a": "aaaa", "b": "bb", "c": "", "d": "", "new": ""}},
		{"Create", []int{2}, files{"a": "aaaa", "b": "bb", "c": "", "d": ""}},
		{"Create", nil, files{"a": "aaaa", "b": "bb"}},
		{"Write", []int{0, 2, 1}, files{"a": "aX", "b": "bb12"}},
		{"Write", []int{0, 2, 0, 1}, files{"a": "aX", "b": "bb1"}},
		{"Write", nil, files{"a": "aaaa", "b": "bb"}},
		{"Cut", []int{0, 2, 1}, files{"a": "aX", "b": "b"}},
		{"Cut", []int{0, 2, 0}, files{"a": "aX", "b": "bb"}},
		{"Sync", nil, files{"a": "aaaa", "b": "bb"}},
		{"Sync", []int{0, 0, 2}, files{"a": "aXYa", "b": "bb"}},
		{"Sync", []int{0, 1}, files{"a": "aXYZ!", "b": "bb"}},
		{"Rename", nil, files{"a": "aaaa", "b": "bb"}},
		{"Rename", []int{2, 2}, files{"a": "aX", "b": "bb", "c": "", "d": ""}},
		{"Rename", []int{3, 2}, files{"a": "bb", "c": "", "d": ""}},
		{"Remove", []int{2, 2}, files{"a": "aX", "b": "bb", "c": "", "d": ""}},
		{"Remove", []int{3, 2}, files{"a": "aX", "c": "", "d": ""}},
		{"SyncDir", nil, files{"a": "aaaa", "b": "bb"}},
		{"SyncDir", []int{1}, files{"a": "aaaa", "b": "bb", "c": ""}},
		{"SyncDir", []int{2, 1}, files{"a": "aXYZ!", "b": "bb", "c": "", "d": ""}},
	} {
		for _, after := range []int{0, -1, math.MinInt} {
			d := restless(t)
			d.Arm(after, x.choices...)
			wantErr(t, x.call, operations()[x.call](d), api.ErrDown)
			if !d.Down() {
				t.Errorf("%s: up", x.call)
			}
			d.Up()
			wantFiles(t, x.call, d, x.want)
			wantFiles(t, x.call+", and all lasts", behind(d, 1, 1, 1, 1, 1), x.want)
			ok(t, d.SyncDir(), d.Create("free"), d.Sync("free"), d.SyncDir())
		}
	}
}

// P3.7: each operation counts, once; what is refused, and what only asks, doesn't.
func TestArmCounts(t *testing.T) {
	for call, do := range operations() {
		for after := range 4 {
			d := restless(t)
			d.Arm(after)
			for i := range after {
				if i == 0 {
					wantErr(t, call, do(d), api.OK)
				} else {
					ok(t, d.SyncDir())
				}
				asked(d)
			}
			wantErr(t, call+", then the armed one", d.SyncDir(), api.ErrDown)
		}
	}
}

// asked: calls that are no operations: questions, and what is refused.
func asked(d *disk.Disk) {
	byName(d, "a/b")
	byName(d, "none")
	d.Create("a")
	d.Create("")
	d.Write("a", 100, nil)
	d.Write("a", 0, make([]byte, 101))
	d.Write("a", 0, make([]byte, api.MaxFile+1))
	d.Cut("a", -1)
	d.Rename("a", "a/b")
	d.Read("a")
	d.Size("a")
	d.Names()
	d.Loose("a")
	d.Down()
	d.Up()
	d.Copy().Crash()
}

// P3.7: an arm over an arm; one far off; one that a crash takes away; one at a disk that is down.
func TestArmsComeAndGo(t *testing.T) {
	d := lasting(t, 10, files{"a": "a"})
	d.Arm(0, 1)
	d.Arm(1)
	ok(t, d.Create("b"))
	wantErr(t, "the later arm, later", d.Create("c"), api.ErrDown)
	d.Up()
	wantFiles(t, "by the later one's choices", d, files{"a": "a"})

	d.Arm(5)
	d.Arm(0, 1)
	wantErr(t, "the later arm, sooner", d.Create("b"), api.ErrDown)
	d.Up()
	wantFiles(t, "by the later one's choices", d, files{"a": "a", "b": ""})

	d.Arm(math.MaxInt)
	ok(t, d.Remove("b"), d.SyncDir())
	d.Arm(0)
	d.Crash()
	d.Up()
	ok(t, d.Create("b"), d.SyncDir())

	d.Crash()
	d.Arm(0)
	if !d.Down() {
		t.Errorf("Arm of one that is down")
	}
	d.Up()
	ok(t, d.Remove("b"), d.SyncDir())
	wantFiles(t, "in the end", d, files{"a": "a"})

	d.Arm(0)
	d.Up()
	wantErr(t, "Up of one that is up leaves the arm", d.SyncDir(), api.ErrDown)
	d.Arm(0)
	d.Up()
	ok(t, d.SyncDir())
}
