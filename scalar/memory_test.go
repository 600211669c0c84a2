package scalar_test

import (
	"runtime"
	"strings"
	"testing"
	"unsafe"

	"turnpike/api"
	"turnpike/scalar"
	"turnpike/spare"
)

// loose: a text in memory that the test may change.
func loose(s string) (string, []byte) {
	b := []byte(s)
	return unsafe.String(unsafe.SliceData(b), len(b)), b
}

// P0.4: what is answered does not change with the text that was handed in, and that was not changed.
func TestTextsAreNeitherChangedNorKept(t *testing.T) {
	for _, s := range []string{"", "null", "true", "-12", "1.5e-3", ".inf", "ab", "-0", "1.0e24", strings.Repeat("x", 5000), strings.Repeat("1", 5000)} {
		for _, quoted := range []bool{false, true} {
			given, bytes := loose(s)
			v := scalar.Read(given, quoted)
			if given != s {
				t.Errorf("%.200q was changed", s)
			}
			spare.Fill(bytes, '!')
			if !equal(v, scalar.Read(s, quoted)) {
				t.Errorf("%.200q, quoted %v: %s when it was changed", s, quoted, told(v))
			}
		}
		given, bytes := loose(s)
		printed, _, e := scalar.Print(text(given))
		if given != s {
			t.Errorf("%.200q was changed", s)
		}
		spare.Fill(bytes, '!')
		if printed != s || e != api.OK {
			t.Errorf("the Text %.200q: %.200q when it was changed, %d", s, printed, int(e))
		}
	}
}

func heap() int {
	var m runtime.MemStats
	runtime.GC()
	runtime.GC()
	runtime.ReadMemStats(&m)
	return int(m.HeapAlloc)
}

// P0.4: who keeps a value or a text keeps no more than that.
func TestNothingMoreIsKept(t *testing.T) {
	var values []scalar.Value
	var texts []string
	before := heap()
	for range 100 {
		big := strings.Repeat("9", 60000)
		s, _, e := scalar.Print(text(big[:5]))
		if e != api.OK {
			t.Fatal(e)
		}
		values = append(values, scalar.Read(big[:25], false), scalar.Read(big[:5], true), scalar.Read(big[:5], false))
		texts = append(texts, s)
		scalar.Read(big, false)
	}
	if more := heap() - before; more > 1<<20 {
		t.Errorf("%d bytes more are kept", more)
	}
	runtime.KeepAlive(values)
	runtime.KeepAlive(texts)
}
