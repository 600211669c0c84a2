package lines_test

import (
	"runtime"
	"slices"
	"strings"
	"testing"
	"unsafe"

	"turnpike/api"
	"turnpike/lines"
	"turnpike/spare"
)

// someTexts: right and wrong ones, one of the greatest length, one longer.
func someTexts() []string {
	right, _ := someTold()
	wrong, _ := faulty()
	return []string{"", "x", right, wrong, "\t", "a: \"b\\x41\" #c", strings.Repeat("ab: cd\n", api.MaxText/7), strings.Repeat("x", api.MaxText+1)}
}

// P8.6: nothing that is handed in is changed, nor the spare room behind it.
func TestHandedInIsNotChanged(t *testing.T) {
	for _, text := range someTexts() {
		list, all := spare.List([]byte(text), 0xa5)
		before := slices.Clone(all)
		l, _ := lines.Scan(list)
		spare.Fill(l, lines.Token{Kind: 9})
		for range lines.Each(list) {
		}
		if !slices.Equal(all, before) {
			t.Errorf("%.40q was changed", text)
		}
		lines.Plain(unsafe.String(unsafe.SliceData(list), len(list)))
		lines.Quote(unsafe.String(unsafe.SliceData(list), len(list)))
		if !slices.Equal(all, before) {
			t.Errorf("%.40q was changed by Plain or Quote", text)
		}
	}
}

// P8.6: what is answered does not change with what was handed in; and the bytes behind a list are none of its.
func TestAnswersAreNewMemory(t *testing.T) {
	for _, text := range someTexts() {
		want, wantFault := model(text)
		if wantFault != (api.Fault{}) {
			want = nil
		}
		list, _ := spare.List([]byte(text), 'x')
		l, f := lines.Scan(list)
		again, _ := lines.Scan(list)
		spare.Fill(list, '!')
		if !slices.Equal(l, want) || f != wantFault {
			t.Errorf("%.40q: %v, %v, want %v, %v", text, brief(l), f, brief(want), wantFault)
		}
		spare.Fill(l, lines.Token{Kind: 9})
		if !slices.Equal(again, want) {
			t.Errorf("%.40q: two answers share memory", text)
		}
	}
	b := []byte("a\tb")
	q := lines.Quote(unsafe.String(unsafe.SliceData(b), len(b)))
	spare.Fill(b, '!')
	if q != `"a\tb"` {
		t.Errorf("Quote: %q", q)
	}
}

// P8.6: a sequence keeps none of the bytes that Each was given.
func TestEachKeepsNothing(t *testing.T) {
	for _, some := range []func() (string, []told){someTold, faulty} {
		text, all := some()
		list, _ := spare.List([]byte(text), 'x')
		each := lines.Each(list)
		i := 0
		for x, f := range each {
			if (told{x, f}) != all[i] {
				t.Fatalf("token %d: %v, %v, want %v", i, x, f, all[i])
			}
			spare.Fill(list, byte('!'+i))
			i++
		}
		var seen []told
		for x, f := range each {
			seen = append(seen, told{x, f})
		}
		if !slices.Equal(seen, all) {
			t.Errorf("the sequence changed with the text: %v", seen)
		}
	}
}

func heap() int {
	var m runtime.MemStats
	runtime.GC()
	runtime.GC()
	runtime.ReadMemStats(&m)
	return int(m.HeapAlloc)
}

// P0.4: a token that somebody keeps holds no more than its own text, and a sequence of what is too long nothing.
func TestNothingMoreIsKept(t *testing.T) {
	text := []byte("key_1: scalar_1 #" + strings.Repeat("x", api.MaxText-17))
	var kept []lines.Token
	before := heap()
	for range 200 {
		l, f := lines.Scan(text)
		if f != (api.Fault{}) || len(l) != 2 {
			t.Fatalf("%v, %v", l, f)
		}
		for x := range lines.Each(text) {
			kept = append(kept, x)
			break
		}
		kept = append(kept, l[1])
	}
	each := lines.Each(make([]byte, 1<<24))
	if more := heap() - before; more > 1<<20 {
		t.Errorf("%d bytes more are kept", more)
	}
	runtime.KeepAlive(kept)
	runtime.KeepAlive(each)
	runtime.KeepAlive(text)
}
