package draw_test

import (
	"math/big"
	"math/rand"
	"slices"
	"testing"

	"turnpike/draw"
)

func wantNext(t *testing.T, s *draw.Source, words ...uint64) {
	t.Helper()
	for i, want := range words {
		if w := s.Next(); w != want {
			t.Fatalf("word %d: %d, want %d", i, w, want)
		}
	}
}

func wantLeft(t *testing.T, s *draw.Source, want int) {
	t.Helper()
	if n := s.Left(); n != want {
		t.Errorf("Left: %d, want %d", n, want)
	}
}

// become: the state behind this one, worked out without wrapping round.
func become(state uint64) uint64 {
	n := new(big.Int).SetUint64(state)
	n.Mul(n, new(big.Int).SetUint64(6364136223846793005))
	n.Add(n, new(big.Int).SetUint64(1442695040888963407))
	return n.Mod(n, new(big.Int).Lsh(big.NewInt(1), 64)).Uint64()
}

// P5.6: the chapter's example.
func TestSourceExample(t *testing.T) {
	s := draw.New(0)
	s.Push(7, 8)
	wantNext(t, s, 7, 8, 1442695040888963407, 1876011003808476466)
}

// P5.6: without words the states of the seed.
func TestStates(t *testing.T) {
	for _, seed := range edgeNums {
		s := draw.New(seed)
		for range 50 {
			seed = become(seed)
			wantLeft(t, s, 0)
			wantNext(t, s, seed)
		}
	}
}

// P5.6: words that were pushed come first, in their order, and leave the state as it is.
func TestWordsLeaveTheState(t *testing.T) {
	s := draw.New(5)
	first := become(5)
	second := become(first)
	wantNext(t, s, first)
	s.Push()
	wantLeft(t, s, 0)
	s.Push(1)
	s.Push(0, topWord)
	s.Push(nil...)
	s.Push([]uint64{}...)
	wantLeft(t, s, 3)
	wantNext(t, s, 1)
	wantLeft(t, s, 2)
	s.Push(1)
	wantLeft(t, s, 3)
	wantNext(t, s, 0, topWord, 1, second)
	wantLeft(t, s, 0)
	s.Push(9)
	wantNext(t, s, 9, become(second))
}

// P5.6: a copy answers the same, and neither tells the other anything.
func TestCopy(t *testing.T) {
	s := draw.New(1)
	s.Push(1, 2, 3)
	wantNext(t, s, 1)
	c := s.Copy()
	s.Push(4)
	c.Push(5)
	wantLeft(t, s, 3)
	wantLeft(t, c, 3)
	wantNext(t, s, 2, 3, 4, become(1), become(become(1)))
	wantNext(t, c, 2, 3, 5, become(1))
	d := c.Copy()
	wantNext(t, c, become(become(1)))
	wantNext(t, d, become(become(1)))
}

// P5.6, P0.1: a nil source; and one that is the zero value, which is as one of the seed 0.
func TestNilSource(t *testing.T) {
	var s *draw.Source
	for range 2 {
		wantNext(t, s, 0, 0)
		wantLeft(t, s, 0)
		if s.Copy() != nil {
			t.Errorf("a copy of a nil source")
		}
		s.Push(1, 2)
		s.Push()
	}
	var zero draw.Source
	wantLeft(t, &zero, 0)
	wantNext(t, zero.Copy(), become(0))
	zero.Push(3)
	wantNext(t, &zero, 3, become(0))
}

// model: a source by the chapter's words.
type model struct {
	words []uint64
	state uint64
}

func (m *model) next() uint64 {
	if len(m.words) == 0 {
		m.state = become(m.state)
		return m.state
	}
	w := m.words[0]
	m.words = slices.Clone(m.words[1:])
	return w
}

// P5.6: walks of pushes, draws and copies, held against the model.
func TestSourceWalks(t *testing.T) {
	for seed := range int64(200) {
		r := rand.New(rand.NewSource(seed))
		start := r.Uint64()
		all := []*draw.Source{draw.New(start)}
		models := []*model{{state: start}}
		for range 300 {
			k := r.Intn(len(all))
			s, m := all[k], models[k]
			switch n := r.Intn(16); {
			case n < 3:
				words := make([]uint64, r.Intn(1+r.Intn(20)))
				for i := range words {
					words[i] = r.Uint64()
				}
				s.Push(words...)
				m.words = append(slices.Clone(m.words), words...)
			case n == 3 && len(all) < 5:
				all = append(all, s.Copy())
				models = append(models, &model{words: slices.Clone(m.words), state: m.state})
			default:
				wantNext(t, s, m.next())
			}
			for i := range all {
				wantLeft(t, all[i], len(models[i].words))
			}
		}
	}
}
