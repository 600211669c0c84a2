package wal_test

import (
	"math"
	"strings"
	"testing"

	"turnpike/api"
	"turnpike/disk"
	"turnpike/wal"
)

// P6.1: no disk, and limits that may not be; the disk comes first.
func TestOpenRefused(t *testing.T) {
	for _, limit := range []int{0, -1, math.MinInt, 1, 20} {
		if l, e := wal.Open(nil, limit); l != nil || e != api.ErrNil {
			t.Errorf("no disk: %v, %v", l, e)
		}
	}
	torn := files{"log.00000000": frames("a") + "torn", "log.00000007": ""}
	for _, limit := range []int{0, -1, math.MinInt} {
		d := diskOf(t, torn)
		if l, e := wal.Open(d, limit); l != nil || e != api.ErrArg {
			t.Errorf("the limit %d: %v, %v", limit, l, e)
		}
		wantFiles(t, "refused", d, torn)
		d.Crash()
		if l, e := wal.Open(d, limit); l != nil || e != api.ErrArg {
			t.Errorf("the limit %d, down: %v, %v", limit, l, e)
		}
	}
	for _, limit := range []int{1, 2, math.MaxInt} {
		wantLog(t, "a limit", open(t, diskOf(t, torn), limit), 0, "a")
	}
}

// A disk that is down has its files nonetheless: none is read.
func TestOpenDown(t *testing.T) {
	d := diskOf(t, files{"log.00000003": frames("a")})
	d.Crash()
	if l, e := wal.Open(d, 20); l != nil || e != api.ErrDown {
		t.Errorf("down: %v, %v", l, e)
	}
	d.Up()
	wantLog(t, "up again", open(t, d, 20), 3, "a")
}

// opened is what Open makes of files.
type opened struct {
	what       string
	had        files
	first      int
	records    string
	want       files
	operations int
	fits       bool // what is removed would follow on what a cut leaves: between both a crash makes it belong to the log
}

func openings() []opened {
	a, b, c, d := frames("a"), frames("b"), frames("c"), frames("d")
	zero, one, two, three := "log.00000000", "log.00000001", "log.00000002", "log.00000003"
	torn := a[:len(a)-1]
	return []opened{
		{"none", files{}, 0, "", files{}, 0, false},
		{"one", files{zero: a + b}, 0, "a b", files{zero: a + b}, 0, false},
		{"three", files{zero: a + b, two: c, three: d}, 0, "a b c d", files{zero: a + b, two: c, three: d}, 0, false},
		{"from another number on", files{two: a, three: b + c + d}, 2, "a b c d", files{two: a, three: b + c + d}, 0, false},
		{"far off", files{"log.12345678": a, "log.12345679": b}, 12345678, "a b", files{"log.12345678": a, "log.12345679": b}, 0, false},
		{"a gap behind the first", files{zero: a, two: b}, 0, "a", files{zero: a}, 2, false},
		{"a gap behind the second", files{zero: a, one: b, three: c}, 0, "a b", files{zero: a, one: b}, 2, false},
		{"two behind a gap", files{zero: a, two: b, three: c}, 0, "a", files{zero: a}, 3, false},
		{"one amid another", files{zero: a + b, one: c}, 0, "a b", files{zero: a + b}, 2, false},
		{"one amid another, and the next", files{zero: a + b, one: c, two: d}, 0, "a b d", files{zero: a + b, two: d}, 2, false},
		{"a torn one amid another, and the next", files{zero: a + b, one: torn, two: d}, 0, "a b d", files{zero: a + b, two: d}, 2, false},
		{"the last torn", files{zero: a, one: b + torn}, 0, "a b", files{zero: a, one: b}, 2, false},
		{"more behind a torn record", files{zero: a + torn + b}, 0, "a", files{zero: a}, 2, false},
		{"the last torn at its first record", files{zero: a, one: torn}, 0, "a", files{zero: a}, 4, false},
		{"the last without a record", files{zero: a, one: ""}, 0, "a", files{zero: a}, 2, false},
		{"the last without a record, others around it", files{zero: a + b, one: c, two: "", three: d}, 0, "a b", files{zero: a + b}, 4, false},
		{"the last torn at its first record, others around it", files{zero: a + b, one: c, two: torn, three: d}, 0, "a b", files{zero: a + b}, 6, false},
		{"the first torn, the next fits", files{zero: a + torn, one: b}, 0, "a", files{zero: a}, 4, true},
		{"the first torn, the next fits what it had", files{zero: a + torn, two: b}, 0, "a", files{zero: a}, 4, false},
		{"one in the middle torn", files{zero: a, one: b + torn, two: c, three: d}, 0, "a b", files{zero: a, one: b}, 5, true},
		{"the first without a record", files{two: ""}, 2, "", files{two: ""}, 0, false},
		{"the first torn at its first record", files{two: torn}, 2, "", files{two: ""}, 2, false},
		{"the first without a record, others", files{zero: "", one: b, two: c}, 0, "", files{zero: ""}, 3, false},
		{"the first torn at its first record, others", files{zero: torn, one: b, two: c}, 0, "", files{zero: ""}, 5, false},
		{"the first without a record, others far off", files{"log.00000100": "", "log.99999999": b}, 100, "", files{"log.00000100": ""}, 2, false},
		{"the last number", files{"log.99999999": ""}, 99999999, "", files{"log.99999999": ""}, 0, false},
	}
}

// P6.1: what belongs to the log, what of it counts, and what becomes of the rest; by the number of operations too, wherever the power fails in them.
func TestOpen(t *testing.T) {
	for _, x := range openings() {
		records := strings.Fields(x.records)
		for after := range x.operations {
			for choice := range 5 {
				d := diskOf(t, x.had)
				d.Arm(after, choice, choice, choice, choice)
				if l, e := wal.Open(d, 20); l != nil || e != api.ErrDown {
					t.Errorf("%s, the power failing in operation %d: %v, %v", x.what, after, l, e)
				}
				d.Up()
				if x.fits {
					continue
				}
				wantLog(t, x.what+", the power failing ahead", open(t, d, 20), x.first, records...)
				wantFiles(t, x.what+", the power failing ahead", d, x.want)
			}
		}
		d := diskOf(t, x.had)
		d.Arm(x.operations)
		l := open(t, d, 20)
		wantLog(t, x.what, l, x.first, records...)
		wantFiles(t, x.what, d, x.want)
		wantLoose(t, x.what, d, map[string]int{"": 0})
		for name := range x.want {
			wantLoose(t, x.what, d, map[string]int{name: 0})
		}
		if l.Dead() || d.Down() {
			t.Errorf("%s: dead %v, down %v", x.what, l.Dead(), d.Down())
		}
		d.Arm(0)
		wantLog(t, x.what+", opened again", open(t, d, 20), x.first, records...)
	}
}

// P6.1: in which order: what is left where the power fails in one operation after the other, and all that is loose of the directory is kept, but nothing that is loose of a file.
func TestOrderOfOpening(t *testing.T) {
	ab, c, torn := frames("a", "b"), frames("c"), "torn"
	had := func() files {
		return files{"log.00000000": ab, "log.00000001": c, "log.00000002": torn, "log.00000004": c, "log.00000006": c}
	}
	want := []func(l files){
		func(l files) {},
		func(l files) {},
		func(l files) { delete(l, "log.00000001"); l["log.00000002"] = "" },
		func(l files) { delete(l, "log.00000001"); delete(l, "log.00000002") },
		func(l files) { delete(l, "log.00000001"); delete(l, "log.00000002"); delete(l, "log.00000004") },
		func(l files) { clear(l); l["log.00000000"] = ab },
		func(l files) { clear(l); l["log.00000000"] = ab },
	}
	for after, change := range want {
		d, left := diskOf(t, had()), had()
		change(left)
		d.Arm(after, -1)
		if l, e := wal.Open(d, 20); l != nil || e != api.ErrDown {
			t.Errorf("%d: %v, %v", after, l, e)
		}
		d.Up()
		wantFiles(t, "behind it", d, left)
	}
}

// P6.1: names that are no segments' are neither read nor removed.
func TestOtherNames(t *testing.T) {
	for _, name := range []string{
		"log.0000000", "log.000000000", "log.", "log", "log.0000000a", "log.a0000000", "log.-0000001", "log.+0000001", "log.0000_000", "log.0x000001",
		"Log.00000000", "LOG.00000000", "xlog.00000000", "og.00000000", "log-00000000", "log00000000", "log.00000000.", "log.0000000:", "log.0000000;", "log.0000000.",
		".00000000", "00000000", "log..0000000", "wal.00000000", "log.0000x000",
	} {
		d := diskOf(t, files{name: frames("other")})
		l := open(t, d, 20)
		wantLog(t, name, l, 0)
		add(t, l, "a", "longer than that")
		want := files{name: frames("other"), "log.00000000": frames("a"), "log.00000001": frames("longer than that")}
		wantFiles(t, name, d, want)
		wantLog(t, name, open(t, d, 20), 0, "a", "longer than that")
		ok(t, l.Trim(1), l.Drop(1))
		wantFiles(t, name, d, files{name: frames("other"), "log.00000001": ""})
	}
}

// A segment's digits are all ten.
func TestNamesOfSegments(t *testing.T) {
	for name, first := range map[string]int{
		"log.00000000": 0, "log.00000009": 9, "log.00000010": 10, "log.01234567": 1234567, "log.89898989": 89898989, "log.99999998": 99999998, "log.10000000": 10000000,
	} {
		d := diskOf(t, files{name: ""})
		l := open(t, d, 9)
		wantLog(t, name, l, first)
		add(t, l, "x")
		wantFiles(t, name, d, files{name: frames("x")})
	}
}

// A limit holds for the log that was opened with it: what lies there may be longer.
func TestOpenWithAnotherLimit(t *testing.T) {
	d := disk.New(1000)
	add(t, open(t, d, 100), "a", "b", "c")
	l := open(t, d, 10)
	wantLog(t, "a lower limit", l, 0, "a", "b", "c")
	add(t, l, "d", "e")
	wantFiles(t, "a lower limit", d, files{"log.00000000": frames("a", "b", "c"), "log.00000003": frames("d"), "log.00000004": frames("e")})
	l = open(t, d, 100)
	add(t, l, "f")
	wantFiles(t, "a higher limit", d, files{"log.00000000": frames("a", "b", "c"), "log.00000003": frames("d"), "log.00000004": frames("e", "f")})
	wantLog(t, "a higher limit", l, 0, "a", "b", "c", "d", "e", "f")
}

// P6.1: what is loose of a disk that didn't crash counts as what it is now.
func TestOpenOverLooseFiles(t *testing.T) {
	d := disk.New(1000)
	ok(t, d.Create("log.00000004"), d.Write("log.00000004", 0, []byte(frames("a", "b")+"torn")))
	l := open(t, d, 100)
	wantLog(t, "loose", l, 4, "a", "b")
	wantLoose(t, "cut and synced, but no name was removed", d, map[string]int{"": 1, "log.00000004": 0})
}
