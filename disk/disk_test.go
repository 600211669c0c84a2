package disk_test

import (
	"maps"
	"math"
	"slices"
	"testing"

	"turnpike/api"
	"turnpike/disk"
)

// ok: calls that must not be refused.
func ok(t *testing.T, l ...api.Errno) {
	t.Helper()
	for i, e := range l {
		if e != api.OK {
			t.Fatalf("call %d: %v", i, e)
		}
	}
}

func wantErr(t *testing.T, what string, got, want api.Errno) {
	t.Helper()
	if got != want {
		t.Errorf("%s: %v, want %v", what, got, want)
	}
}

// files: what each name has.
type files map[string]string

// wantFiles: the disk has just these names, and each just these bytes.
func wantFiles(t *testing.T, what string, d *disk.Disk, want files) {
	t.Helper()
	got := files{}
	for _, name := range d.Names() {
		b, e := d.Read(name)
		n, f := d.Size(name)
		if e != api.OK || f != api.OK || n != len(b) {
			t.Errorf("%s: %s: %v, and the size %d, %v", what, name, e, n, f)
		}
		got[name] = string(b)
	}
	if !maps.Equal(got, want) {
		t.Errorf("%s: %.200q, want %.200q", what, got, want)
	}
}

// wantLoose: so many loose changes has the directory (the name ""), or a file.
func wantLoose(t *testing.T, what string, d *disk.Disk, want map[string]int) {
	t.Helper()
	for name, n := range want {
		if got := d.Loose(name); got != n {
			t.Errorf("%s: %q has %d loose changes, want %d", what, name, got, n)
		}
	}
}

// lasting: a disk with these files, nothing of which is loose.
func lasting(t *testing.T, room int, l files) *disk.Disk {
	t.Helper()
	d := disk.New(room)
	for name, text := range l {
		ok(t, d.Create(name), d.Write(name, 0, []byte(text)), d.Sync(name))
	}
	ok(t, d.SyncDir())
	return d
}

// behind: what a copy of the disk has, when its power has failed by these choices and come again.
func behind(d *disk.Disk, choices ...int) *disk.Disk {
	c := d.Copy()
	c.Crash(choices...)
	c.Up()
	return c
}

// The chapter's examples, line by line.
func TestExamples(t *testing.T) {
	d := disk.New(10)
	ok(t, d.Create("a"), d.Write("a", 0, []byte("hello")))
	wantFiles(t, "hello", d, files{"a": "hello"})
	wantLoose(t, "hello", d, map[string]int{"a": 1, "": 1})

	wantErr(t, "behind the end", d.Write("a", 6, []byte("x")), api.ErrArg)
	ok(t, d.Write("a", 3, []byte("LOWER")))
	wantFiles(t, "LOWER", d, files{"a": "helLOWER"})
	wantErr(t, "eleven bytes", d.Write("a", 0, make([]byte, 11)), api.ErrFull)

	ok(t, d.Sync("a"))
	wantFiles(t, "a name that did not last", behind(d, 0), files{})

	ok(t, d.SyncDir())
	e := d.Copy()
	ok(t, e.Write("a", 0, []byte("J")), e.Cut("a", 2))
	wantFiles(t, "0, 2", behind(e, 0, 2), files{"a": "Je"})
	wantFiles(t, "0, 1", behind(e, 0, 1), files{"a": "JelLOWER"})
	wantFiles(t, "0, 0, 1", behind(e, 0, 0, 1), files{"a": "JelLOWER"})
	wantFiles(t, "0, 0, 0", behind(e, 0, 0, 0), files{"a": "helLOWER"})

	e = d.Copy()
	ok(t, e.Create("b"), e.Rename("b", "a"))
	wantFiles(t, "a rename undone", behind(e, 1), files{"a": "helLOWER", "b": ""})

	d.Arm(1)
	ok(t, d.Create("c"))
	wantErr(t, "the armed one", d.Create("d"), api.ErrDown)
	wantErr(t, "down", d.Create("e"), api.ErrDown)
	d.Up()
	wantFiles(t, "up again", d, files{"a": "helLOWER"})

	wantErr(t, "a/b", d.Create("a/b"), api.ErrArg)
	_, err := d.Read("z")
	wantErr(t, "Read z", err, api.ErrNoFile)
	wantErr(t, "Rename z", d.Rename("z", "a"), api.ErrNoFile)
}

// P3.1: no files, up, no arm, and just the room that was said.
func TestNew(t *testing.T) {
	if disk.MaxFiles != 64 {
		t.Errorf("MaxFiles is %d", disk.MaxFiles)
	}
	for _, x := range []struct{ room, want int }{{10, 10}, {1, 1}, {0, 0}, {-1, 0}, {math.MinInt, 0}} {
		d := disk.New(x.room)
		wantFiles(t, "new", d, files{})
		wantLoose(t, "new", d, map[string]int{"": 0, "a": 0})
		if d.Down() {
			t.Errorf("a new disk is down")
		}
		ok(t, d.SyncDir(), d.Create("a"), d.Write("a", 0, make([]byte, x.want)), d.Sync("a"), d.SyncDir())
		wantErr(t, "one more", d.Write("a", x.want, []byte{1}), api.ErrFull)
	}
	d := disk.New(math.MaxInt)
	ok(t, d.Create("a"), d.Write("a", 0, make([]byte, api.MaxFile)), d.Create("b"), d.Write("b", 0, make([]byte, api.MaxFile)))
}

// P3.2: one file for each name.
func TestCreate(t *testing.T) {
	d := disk.New(10)
	ok(t, d.Create("b"), d.Create("a"), d.Write("a", 0, []byte("xy")))
	wantFiles(t, "two", d, files{"a": "xy", "b": ""})
	wantErr(t, "there", d.Create("a"), api.ErrExists)
	wantErr(t, "there", d.Create("b"), api.ErrExists)
	wantFiles(t, "refused", d, files{"a": "xy", "b": ""})
	wantLoose(t, "refused", d, map[string]int{"": 2, "a": 1, "b": 0})
	ok(t, d.SyncDir())
	wantErr(t, "there, and lasting", d.Create("a"), api.ErrExists)
}

// P3.2: MaxFiles names, and one more; a name that is there is told first; a name for another may be had.
func TestMaxFiles(t *testing.T) {
	d := disk.New(10)
	var names []string
	for i := range disk.MaxFiles {
		names = append(names, string(rune('!'+i%10))+string(rune('A'+i/10)))
		ok(t, d.Create(names[i]))
	}
	slices.Sort(names)
	wantErr(t, "one more", d.Create("more"), api.ErrFull)
	wantErr(t, "there", d.Create(names[7]), api.ErrExists)
	if !slices.Equal(d.Names(), names) {
		t.Errorf("%q", d.Names())
	}
	ok(t, d.Rename(names[0], "moved"))
	wantErr(t, "one more", d.Create("more"), api.ErrFull)
	ok(t, d.Rename("moved", names[1]), d.Create("more"))
	wantErr(t, "one more", d.Create("again"), api.ErrFull)
	ok(t, d.Remove("more"), d.Create("again"), d.SyncDir())
	wantErr(t, "one more", d.Create("more"), api.ErrFull)
	d = behind(d)
	wantErr(t, "one more, behind a crash", d.Create("more"), api.ErrFull)
	ok(t, d.Remove("again"), d.Create("more"))
}

// P3.2: the file goes with its name, loose changes and all.
func TestRename(t *testing.T) {
	d := lasting(t, 20, files{"a": "old a", "b": "old b"})
	ok(t, d.Write("a", 0, []byte("NEW")), d.Rename("a", "c"))
	wantFiles(t, "to a new name", d, files{"c": "NEW a", "b": "old b"})
	wantLoose(t, "to a new name", d, map[string]int{"": 1, "a": 0, "b": 0, "c": 1})
	_, e := d.Read("a")
	wantErr(t, "from", e, api.ErrNoFile)
	wantErr(t, "again", d.Rename("a", "c"), api.ErrNoFile)
	wantErr(t, "of none, to itself", d.Rename("a", "a"), api.ErrNoFile)
	wantLoose(t, "refused", d, map[string]int{"": 1, "c": 1})

	ok(t, d.Write("b", 5, []byte("!")), d.Cut("b", 3), d.Rename("c", "b"))
	wantFiles(t, "over a file with loose changes", d, files{"b": "NEW a"})
	wantLoose(t, "over a file with loose changes", d, map[string]int{"": 2, "b": 1, "c": 0})
	wantFiles(t, "undone", behind(d, 1, 1, 1), files{"b": "old b!", "c": "NEW a"})
	wantFiles(t, "undone, torn", behind(d, 1, 0, 0, 0, 2), files{"b": "old b", "c": "NEd a"})
	wantFiles(t, "kept", behind(d, 2, 1), files{"b": "NEW a"})
	wantFiles(t, "all undone", behind(d, 0, 1, 2), files{"a": "NEW a", "b": "old"})
}

// P3.2: to itself nothing is changed, but it is a loose change, and an operation.
func TestRenameToItself(t *testing.T) {
	d := lasting(t, 20, files{"a": "text"})
	ok(t, d.Write("a", 0, []byte("T")), d.Rename("a", "a"), d.Rename("a", "a"))
	wantFiles(t, "to itself", d, files{"a": "Text"})
	wantLoose(t, "to itself", d, map[string]int{"": 2, "a": 1})
	ok(t, d.Create("b"))
	wantFiles(t, "two kept", behind(d, 2, 1), files{"a": "Text"})
	wantFiles(t, "three kept", behind(d, 3, 1), files{"a": "Text", "b": ""})
	d.Arm(1)
	ok(t, d.Rename("a", "a"))
	wantErr(t, "the second", d.Rename("a", "a"), api.ErrDown)
}

// P3.2: a name removed; and made anew, it names another file.
func TestRemove(t *testing.T) {
	d := lasting(t, 20, files{"a": "one", "b": "two"})
	ok(t, d.Write("a", 3, []byte("!")), d.Remove("a"))
	wantFiles(t, "removed", d, files{"b": "two"})
	wantLoose(t, "removed", d, map[string]int{"": 1, "a": 0, "b": 0})
	wantErr(t, "again", d.Remove("a"), api.ErrNoFile)
	wantErr(t, "what is not there", d.Sync("a"), api.ErrNoFile)
	ok(t, d.Create("a"))
	wantFiles(t, "made anew", d, files{"a": "", "b": "two"})
	wantLoose(t, "made anew", d, map[string]int{"": 2, "a": 0})
	ok(t, d.Write("a", 0, []byte("new")), d.Write("a", 3, []byte("er")))
	wantFiles(t, "all undone", behind(d, 0, 1), files{"a": "one!", "b": "two"})
	wantFiles(t, "removed", behind(d, 1), files{"b": "two"})
	wantFiles(t, "made anew", behind(d, 2, 1, 1), files{"a": "newe", "b": "two"})
	ok(t, d.Sync("a"))
	wantFiles(t, "all undone, the new one synced", behind(d, 0, 0, 0), files{"a": "one", "b": "two"})
	ok(t, d.SyncDir())
	wantFiles(t, "lasting", behind(d, 0), files{"a": "newer", "b": "two"})
}

// P3.4: all names, byte by byte.
func TestNames(t *testing.T) {
	want := []string{"!", "-", "10", "9", "A", "Z", "Za", "a", "a!", "a-b", "a.b", "aZ", "aa", "ab", "~"}
	d := disk.New(0)
	for i := range want {
		ok(t, d.Create(want[(i*7)%len(want)]))
	}
	if got := d.Names(); !slices.Equal(got, want) {
		t.Errorf("%q", got)
	}
}

// P3.5: what a Sync and a SyncDir make last, and what they don't.
func TestSync(t *testing.T) {
	d := disk.New(20)
	ok(t, d.Create("a"), d.Create("b"), d.Write("a", 0, []byte("aa")), d.Write("b", 0, []byte("bb")), d.Cut("a", 1))
	wantErr(t, "none", d.Sync("c"), api.ErrNoFile)
	wantLoose(t, "none", d, map[string]int{"": 2, "a": 2, "b": 1})
	ok(t, d.Sync("a"))
	wantLoose(t, "a synced", d, map[string]int{"": 2, "a": 0, "b": 1})
	wantFiles(t, "their names are loose", behind(d), files{})
	wantFiles(t, "names kept", behind(d, 2), files{"a": "a", "b": ""})
	ok(t, d.SyncDir())
	wantLoose(t, "names synced", d, map[string]int{"": 0, "a": 0, "b": 1})
	wantFiles(t, "b is loose", behind(d), files{"a": "a", "b": ""})
	ok(t, d.Write("a", 1, []byte("xyz")), d.Sync("a"), d.Sync("b"), d.Sync("b"), d.SyncDir())
	wantFiles(t, "all synced", d, files{"a": "axyz", "b": "bb"})
	wantFiles(t, "all synced", behind(d), files{"a": "axyz", "b": "bb"})
	ok(t, d.Write("a", 0, []byte("-")), d.Cut("b", 0))
	wantFiles(t, "changed behind it", behind(d), files{"a": "axyz", "b": "bb"})
}

// P3.6: writes without bytes and cuts of nothing count, what is refused doesn't.
func TestLoose(t *testing.T) {
	d := disk.New(5)
	ok(t, d.Create("a"), d.Write("a", 0, nil), d.Write("a", 0, []byte{}), d.Cut("a", 0), d.Write("a", 0, []byte("12345")), d.Write("a", 0, []byte("12345")), d.Cut("a", 5))
	d.Write("a", 6, nil)
	d.Write("a", 5, []byte{1})
	d.Cut("a", 6)
	d.Create("a")
	d.Remove("b")
	d.Rename("b", "a")
	d.Create("a/b")
	wantLoose(t, "a", d, map[string]int{"": 1, "a": 6, "b": 0, "a/b": 0, "a b": 0})
	ok(t, d.Remove("a"), d.Create("b"), d.Rename("b", "a"))
	wantLoose(t, "a anew", d, map[string]int{"": 4, "a": 0, "b": 0})
}
