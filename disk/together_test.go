package disk_test

import (
	"maps"
	"slices"
	"strconv"
	"strings"
	"testing"

	"turnpike/api"
	"turnpike/disk"
)

// told: all names and bytes of a disk that is up, as one text.
func told(t *testing.T, d *disk.Disk) string {
	t.Helper()
	var l []string
	for _, name := range d.Names() {
		b, e := d.Read(name)
		ok(t, e)
		l = append(l, name+"="+string(b))
	}
	return strings.Join(l, " ")
}

// allChoices: calls f with each list of n choices from 0 to most.
func allChoices(n, most int, f func(choices []int)) {
	l := make([]int, n)
	for {
		f(slices.Clone(l))
		i := 0
		for ; i < n && l[i] == most; i++ {
			l[i] = 0
		}
		if i == n {
			return
		}
		l[i]++
	}
}

// reached: all that a failure of the power may leave, by some choices.
func reached(t *testing.T, d *disk.Disk, n, most int) map[string]int {
	t.Helper()
	got := map[string]int{}
	allChoices(n, most, func(choices []int) { got[told(t, behind(d, choices...))]++ })
	return got
}

// P3.9: where nothing of a file is loose, nor of the directory, nothing of it changes, whatever else is loose.
func TestWhatLasts(t *testing.T) {
	d := lasting(t, 100, files{"a": "aaa", "b": "", "c": "cc"})
	ok(t, d.Write("a", 1, []byte("AA")), d.Write("a", 3, []byte("A")), d.Write("c", 0, []byte("C")), d.Sync("c"), d.Cut("a", 0))
	allChoices(5, 4, func(choices []int) {
		e := behind(d, choices...)
		b, err := e.Read("b")
		c, err2 := e.Read("c")
		if err != api.OK || err2 != api.OK || len(b) != 0 || string(c) != "Cc" || len(e.Names()) != 3 {
			t.Fatalf("%v: %s", choices, told(t, e))
		}
	})
}

// P3.10: a file's beginnings, all of them and nothing else: a write, torn at each byte, a cut, a write that makes it longer.
func TestBeginningsOfAFile(t *testing.T) {
	d := lasting(t, 100, files{"a": "01234"})
	ok(t, d.Write("a", 3, []byte("abc")), d.Cut("a", 1), d.Write("a", 1, []byte("xy")), d.Write("a", 0, []byte("!")))
	want := map[string]int{}
	for _, s := range []string{"01234", "012a4", "012ab", "012abc", "0", "0x", "0xy", "!xy"} {
		want["a="+s] = 1
	}
	got := reached(t, d, 3, 4)
	if !slices.Equal(slices.Sorted(maps.Keys(got)), slices.Sorted(maps.Keys(want))) {
		t.Errorf("%v, want %v", got, want)
	}
}

// P3.10: the directory's beginnings, all of them and nothing else.
func TestBeginningsOfTheDirectory(t *testing.T) {
	d := lasting(t, 100, files{"a": "1", "b": "2"})
	ok(t, d.Create("c"), d.Rename("a", "b"), d.Remove("c"), d.Rename("b", "b"), d.Create("a"), d.Rename("a", "b"), d.Create("c"))
	got := slices.Sorted(maps.Keys(reached(t, d, 1, 7)))
	want := slices.Sorted(slices.Values([]string{"a=1 b=2", "a=1 b=2 c=", "b=1 c=", "b=1", "a= b=1", "b=", "b= c="}))
	if !slices.Equal(got, want) {
		t.Errorf("%q, want %q", got, want)
	}
	for kept, want := range []string{"a=1 b=2", "a=1 b=2 c=", "b=1 c=", "b=1", "b=1", "a= b=1", "b=", "b= c="} {
		if got := told(t, behind(d, kept)); got != want {
			t.Errorf("%d kept: %q, want %q", kept, got, want)
		}
	}
}

// P3.10: each beginning of the one with each of the others.
func TestBeginningsTogether(t *testing.T) {
	d := lasting(t, 100, files{"a": "1", "b": "2"})
	ok(t, d.Write("a", 1, []byte("xy")), d.Cut("b", 0), d.Rename("a", "c"))
	want := map[string]int{}
	for _, a := range []string{"1", "1x", "1xy"} {
		for _, b := range []string{"2", ""} {
			want["a="+a+" b="+b]++
			want["b="+b+" c="+a]++
		}
	}
	got := reached(t, d, 4, 2)
	if !slices.Equal(slices.Sorted(maps.Keys(got)), slices.Sorted(maps.Keys(want))) {
		t.Errorf("%v, want %v", got, want)
	}
}

// P3.11: put in place: wherever the power fails, the name has the old bytes or the new ones, and behind the last sync the new ones.
func TestPutInPlace(t *testing.T) {
	steps := []func(d *disk.Disk) api.Errno{
		func(d *disk.Disk) api.Errno { return d.Create("temp") },
		func(d *disk.Disk) api.Errno { return d.Write("temp", 0, []byte("ne")) },
		func(d *disk.Disk) api.Errno { return d.Write("temp", 2, []byte("w")) },
		func(d *disk.Disk) api.Errno { return d.Sync("temp") },
		func(d *disk.Disk) api.Errno { return d.Rename("temp", "name") },
		func(d *disk.Disk) api.Errno { return d.SyncDir() },
	}
	seen := map[string]int{}
	for after := range len(steps) + 1 {
		allChoices(5, 2, func(choices []int) {
			d := lasting(t, 100, files{"name": "the old", "other": "x"})
			d.Arm(after, choices...)
			for i, step := range steps {
				want := api.OK
				if i >= after {
					want = api.ErrDown
				}
				wantErr(t, "step "+strconv.Itoa(i), step(d), want)
			}
			d.Crash(choices...)
			d.Up()
			b, e := d.Read("name")
			if e != api.OK || string(b) != "the old" && string(b) != "new" || after == len(steps) && string(b) != "new" || after < 4 && string(b) == "new" {
				t.Fatalf("after %d, %v: %q, %v", after, choices, b, e)
			}
			seen[strconv.Itoa(after)+string(b)]++
		})
	}
	for _, both := range []string{"4new", "4the old", "5new", "5the old"} {
		if seen[both] == 0 {
			t.Errorf("%s never came about", both)
		}
	}
}
