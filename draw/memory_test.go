package draw_test

import (
	"runtime"
	"testing"

	"turnpike/draw"
	"turnpike/spare"
)

// P5.9: weights and lists are not changed, the spare room behind them neither, whether they may be or not.
func TestHandedInIsNotChanged(t *testing.T) {
	for _, l := range [][]float64{{}, {0.25, minus0, 0.5, 0.25, 0}, {0, 0}, {1, nan, -1}, {huge, huge}, {inf, 3, under}, {3, 4, 5}} {
		weights, all := spare.List(l, 7)
		_, before := spare.List(l, 7)
		draw.Cumulate(weights...)
		draw.Pick(1<<63, weights...)
		for _, x := range edges {
			draw.Place(weights, x)
		}
		if !same(all, before) {
			t.Errorf("%v was changed: %v", l, all)
		}
	}
}

// P5.9: words are neither changed nor kept.
func TestWordsAreNotKept(t *testing.T) {
	s := draw.New(0)
	words, all := spare.List([]uint64{1, 2}, 7)
	s.Push(words...)
	s.Push(3)
	wantNext(t, s, 1)
	s.Push(4, 5)
	for i, w := range all {
		if i < 2 && w != uint64(i+1) || i >= 2 && w != 7 {
			t.Errorf("word %d became %d", i, w)
		}
	}
	c := s.Copy()
	spare.Fill(words, 9)
	wantNext(t, s, 2, 3, 4, 5)
	wantNext(t, c, 2, 3, 4, 5)
}

// P5.9: sums are new memory: filled, they change neither the weights nor other sums.
func TestSumsAreNewMemory(t *testing.T) {
	weights := []float64{0.25, 0, 0.5, 0.25, 0}
	want := []float64{0.25, 0.25, 0.75, 1, 1}
	first, _ := draw.Cumulate(weights...)
	second, _ := draw.Cumulate(weights...)
	spare.Fill(first, 9)
	if !same(second, want) || !same(weights, []float64{0.25, 0, 0.5, 0.25, 0}) {
		t.Errorf("%v, %v", second, weights)
	}
	spare.Fill(weights, 9)
	if !same(second, want) {
		t.Errorf("%v", second)
	}
	wantSums(t, want, 0.25, 0, 0.5, 0.25, 0)
}

// P0.4: nothing is kept of words that were taken, whether some are left or none.
func TestNothingMoreIsKept(t *testing.T) {
	const many = 1 << 20
	for left := range 3 {
		var all []*draw.Source
		before := heap()
		for range 8 {
			s := draw.New(0)
			words := make([]uint64, many)
			s.Push(words...)
			for range many - left {
				s.Next()
			}
			all = append(all, s, s.Copy())
		}
		if more := heap() - before; more > many {
			t.Errorf("%d left: %d bytes more are kept", left, more)
		}
		runtime.KeepAlive(all)
	}
}

// P0.4: a source through which many words go, a few of them there at a time, stays small.
func TestManyWordsGoThrough(t *testing.T) {
	s := draw.New(0)
	s.Push(1, 2, 3)
	before := heap()
	for i := range uint64(1 << 20) {
		s.Push(i + 4)
		wantNext(t, s, i+1)
		wantLeft(t, s, 3)
	}
	if more := heap() - before; more > 1<<20 {
		t.Errorf("%d bytes more are kept", more)
	}
	runtime.KeepAlive(s)
}

// heap: how many bytes are held.
func heap() int {
	var m runtime.MemStats
	runtime.GC()
	runtime.ReadMemStats(&m)
	return int(m.HeapAlloc)
}
