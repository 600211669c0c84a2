package draw_test

import (
	"math"
	"math/rand"
	"slices"
	"testing"

	"turnpike/api"
	"turnpike/draw"
)

// may: whether weights may be, by the chapter's words.
func may(weights []float64) bool {
	above, sum := false, 0.0
	for _, w := range weights {
		if math.IsNaN(w) || math.IsInf(w, 0) || w < 0 {
			return false
		}
		above = above || w > 0
		sum = sum + w
	}
	return len(weights) >= 1 && above && !math.IsInf(sum, 0)
}

// sums: what Cumulate has to answer of weights that may be, each sum added for itself.
func sums(weights []float64) []float64 {
	var l []float64
	for i := range weights {
		ahead := slices.ContainsFunc(weights[i+1:], func(w float64) bool { return w > 0 })
		sum := 0.0
		for _, w := range weights[:i+1] {
			sum = sum + w
		}
		if !ahead {
			sum = 1
		}
		l = append(l, sum)
	}
	return l
}

// place: what Place has to answer, sought from the end on.
func place(l []float64, x float64) (int, bool) {
	least, is := 0, false
	for i := len(l) - 1; i >= 0; i-- {
		if l[i] > x {
			least, is = i, true
		}
	}
	return least, is
}

func wantRefused(t *testing.T, weights ...float64) {
	t.Helper()
	if l, e := draw.Cumulate(weights...); e != api.ErrArg || len(l) != 0 {
		t.Errorf("Cumulate(%v): %v, error %d", weights, l, int(e))
	}
	for _, w := range []uint64{0, 1 << 63, topWord} {
		if i, e := draw.Pick(w, weights...); e != api.ErrArg || i != 0 {
			t.Errorf("Pick(%d, %v): %d, error %d", w, weights, i, int(e))
		}
	}
}

func wantSums(t *testing.T, want []float64, weights ...float64) {
	t.Helper()
	if l, e := draw.Cumulate(weights...); e != api.OK || !same(l, want) {
		t.Errorf("Cumulate(%v): %v, error %d, want %v", weights, l, int(e), want)
	}
}

func wantPlace(t *testing.T, l []float64, x float64, want int, wantIs bool) {
	t.Helper()
	if i, is := draw.Place(l, x); i != want || is != wantIs {
		t.Errorf("Place(%v, %v): %d, %v, want %d, %v", l, x, i, is, want, wantIs)
	}
}

func wantPick(t *testing.T, want int, w uint64, weights ...float64) {
	t.Helper()
	if i, e := draw.Pick(w, weights...); i != want || e != api.OK {
		t.Errorf("Pick(%d, %v): %d, error %d, want %d", w, weights, i, int(e), want)
	}
}

// P5.3, P5.5: the chapter's examples, and more weights that may not be, wherever the wrong one stands.
func TestWeightsThatMayNotBe(t *testing.T) {
	wantRefused(t)
	wantRefused(t, nil...)
	wantRefused(t, []float64{}...)
	for _, l := range [][]float64{{0, minus0}, {0}, {minus0}, {0, 0, 0}, {minus0, minus0}} {
		wantRefused(t, l...)
	}
	for _, wrong := range []float64{-1, -tiny, -huge, nan, -nan, math.Float64frombits(0xfff0000000000001), inf, under} {
		wantRefused(t, wrong)
		for i := range 4 {
			for _, other := range []float64{0, 0.25, 100} {
				l := []float64{other, other, other}
				wantRefused(t, slices.Insert(l, i, wrong)...)
			}
		}
	}
	wantRefused(t, inf, under)
	wantRefused(t, -1, 2)
	wantRefused(t, nan, nan)
}

// P5.3: a sum that is not finite, also where only the last weight makes it so; and the greatest that is.
func TestSumsThatAreNotFinite(t *testing.T) {
	wantRefused(t, 0x1p1023, 0x1p1023)
	wantRefused(t, 0x1p1023, 0, 0x1p1023, 0)
	wantRefused(t, huge, huge)
	wantRefused(t, 1, huge, 0x1p970)
	wantRefused(t, huge, 0x1p970)
	wantSums(t, []float64{huge, 1}, huge, 1)
	wantSums(t, []float64{huge, 1}, huge, math.Nextafter(0x1p970, 0))
	wantSums(t, []float64{1, 1, 1}, huge, 0, minus0)
	wantSums(t, []float64{0x1p1023, 0x1p1023, 1}, 0x1p1023, 0, 0x1p1022)
}

// P5.3: the sums are rounded one by one, from the first on: another order would round otherwise, and be finite or not otherwise.
func TestSumsAreRoundedFromTheFirstOn(t *testing.T) {
	wantSums(t, []float64{0.1, 0.30000000000000004, 0.6000000000000001, 1}, 0.1, 0.2, 0.3, 0.4)
	wantSums(t, []float64{1, 1, 1, 1}, 1, 0x1p-53, 0x1p-53, 5)
	wantSums(t, []float64{0x1p-53, 0x1p-52, 1 + 0x1p-52, 1}, 0x1p-53, 0x1p-53, 1, 5)
	wantSums(t, []float64{1, 1 + 0x1p-52, 1}, 1, math.Nextafter(0x1p-53, 1), 5)
	wantSums(t, []float64{1 + 0x1p-52, 1 + 0x1p-51, 1}, 1+0x1p-52, 0x1p-53, 5)
	wantSums(t, []float64{tiny, 2 * tiny, 1}, tiny, tiny, tiny)
	wantRefused(t, huge, 0x1p970, 0x1p969)
	wantSums(t, []float64{huge, huge, 1}, huge, 0x1p969, 0x1p969)
	wantRefused(t, 0x1p969, 0x1p969, huge)
}

// P5.3: the chapter's example, -0, and where the last weight above 0 stands.
func TestCumulate(t *testing.T) {
	wantSums(t, []float64{0.25, 0.25, 0.75, 1, 1}, 0.25, 0, 0.5, 0.25, 0)
	wantSums(t, []float64{1}, 7)
	wantSums(t, []float64{1}, tiny)
	wantSums(t, []float64{0, 1}, 0, 3)
	wantSums(t, []float64{0, 1}, minus0, 3)
	wantSums(t, []float64{0, 0, 1, 1, 1}, minus0, minus0, 3, minus0, 0)
	wantSums(t, []float64{1, 1, 1}, 3, 0, minus0)
	wantSums(t, []float64{3, 7, 1}, 3, 4, 5)
	wantSums(t, []float64{0.25, 1}, 0.25, 0.25)
}

// P5.4: the chapter's examples.
func TestPlaceExamples(t *testing.T) {
	l := []float64{0.25, 0.25, 1}
	wantPlace(t, l, 0, 0, true)
	wantPlace(t, l, 0.25, 2, true)
	wantPlace(t, l, 1, 0, false)
	wantPlace(t, l, nan, 0, false)
	wantPlace(t, []float64{nan, inf}, 5, 1, true)
}

// P5.4: of any list, also one that does not rise, and any real.
func TestPlaceEdges(t *testing.T) {
	for _, x := range edges {
		wantPlace(t, nil, x, 0, false)
		wantPlace(t, []float64{}, x, 0, false)
		wantPlace(t, []float64{nan, nan}, x, 0, false)
		wantPlace(t, []float64{under}, x, 0, false)
		wantPlace(t, edges, nan, 0, false)
		wantPlace(t, edges, inf, 0, false)
	}
	wantPlace(t, []float64{0, minus0}, 0, 0, false)
	wantPlace(t, []float64{0, minus0}, minus0, 0, false)
	wantPlace(t, []float64{nan, under, -huge, 0}, under, 2, true)
	wantPlace(t, []float64{5, 1, 3, 4, 6}, 3, 0, true)
	wantPlace(t, []float64{1, 5, 3, 6}, 3, 1, true)
	wantPlace(t, []float64{1, 3, 3, 6}, 5, 3, true)
	wantPlace(t, []float64{huge, inf}, huge, 1, true)
	wantPlace(t, []float64{0, tiny}, 0, 1, true)
	wantPlace(t, []float64{-tiny, minus0}, -tiny, 1, true)
}

// P5.4: held against a search that goes the other way.
func TestPlaceOfAnyLists(t *testing.T) {
	r := rand.New(rand.NewSource(3))
	for range 20000 {
		l := anyReals(r, r.Intn(7))
		x := anyReals(r, 1)[0]
		i, is := place(l, x)
		wantPlace(t, l, x, i, is)
	}
	long := make([]float64, 100000)
	long[99999] = 1
	wantPlace(t, long, 0.5, 99999, true)
	wantPlace(t, long, 1, 0, false)
}

// anyReals: so many, edges among them.
func anyReals(r *rand.Rand, n int) []float64 {
	l := make([]float64, n)
	for i := range l {
		switch r.Intn(3) {
		case 0:
			l[i] = edges[r.Intn(len(edges))]
		case 1:
			l[i] = math.Float64frombits(r.Uint64())
		default:
			l[i] = float64(r.Intn(9)) / 8
		}
	}
	return l
}

// weightsOf: mostly weights that may be.
func weightsOf(r *rand.Rand, n int) []float64 {
	if r.Intn(4) == 0 {
		return anyReals(r, n)
	}
	l := make([]float64, n)
	scale := math.Ldexp(1, r.Intn(9)-4)
	for i := range l {
		switch r.Intn(6) {
		case 0:
			l[i] = 0
		case 1:
			l[i] = minus0
		case 2:
			l[i] = math.Abs(edges[r.Intn(16)])
		default:
			l[i] = r.Float64() * scale
		}
	}
	return l
}

// P5.3, P5.5: any weights and words, held against the chapter's words.
func TestAnyWeights(t *testing.T) {
	r := rand.New(rand.NewSource(4))
	let := 0
	for range 20000 {
		weights := weightsOf(r, r.Intn(8))
		if !may(weights) {
			wantRefused(t, weights...)
			continue
		}
		let++
		l := sums(weights)
		wantSums(t, l, weights...)
		for _, w := range []uint64{0, r.Uint64(), r.Uint64() >> r.Intn(64), topWord} {
			i, is := place(l, float64(w>>11)/0x1p53)
			if !is {
				t.Fatalf("%v: no place", weights)
			}
			wantPick(t, i, w, weights...)
		}
	}
	if let < 5000 {
		t.Errorf("only %d lists of weights that may be", let)
	}
}

// P5.5: the chapter's example, and the words at the sums' edges.
func TestPick(t *testing.T) {
	weights := []float64{0.25, 0, 0.5, 0.25}
	wantPick(t, 2, 1<<63, weights...)
	wantPick(t, 0, 0, weights...)
	wantPick(t, 0, 1<<62-1, weights...)
	wantPick(t, 2, 1<<62, weights...)
	wantPick(t, 2, 3<<62-1, weights...)
	wantPick(t, 3, 3<<62, weights...)
	wantPick(t, 3, topWord, weights...)
	wantPick(t, 1, 0, minus0, tiny)
	wantPick(t, 0, 0, tiny, 1)
	wantPick(t, 0, 2047, tiny, 1)
	wantPick(t, 1, 2048, tiny, 1)
	wantPick(t, 1, 0, 0, 5, 0)
	wantPick(t, 1, topWord, 0, 5, 0)
	wantPick(t, 0, topWord, 3, 4, 5)
	wantPick(t, 0, topWord, 1, 1)
	wantPick(t, 1, topWord, 0.25, 0.25)
	wantPick(t, 1, topWord, 1-0x1p-53, 0x1p-53)
	wantPick(t, 0, topWord-2048, 1-0x1p-53, 0x1p-53)
}

// P5.7: each word picks a weight above 0; a greater one, where the sums are not above 1, the same or a later one.
func TestPicksAreThereAndRise(t *testing.T) {
	r := rand.New(rand.NewSource(5))
	rose := 0
	for range 4000 {
		weights := weightsOf(r, 1+r.Intn(9))
		if !may(weights) {
			continue
		}
		words := append(slices.Clone(edgeNums), r.Uint64(), r.Uint64(), r.Uint64()>>r.Intn(64))
		for _, x := range sums(weights) {
			if x < 1 {
				at := uint64(x*0x1p53) << 11
				words = append(words, at-1, at, at+2047, at+2048)
			}
		}
		slices.Sort(words)
		l := sums(weights)
		most := slices.Max(l)
		last := 0
		for _, w := range words {
			i, e := draw.Pick(w, weights...)
			if e != api.OK || i < 0 || i >= len(weights) || !(weights[i] > 0) {
				t.Fatalf("Pick(%d, %v): %d, error %d", w, weights, i, int(e))
			}
			if most <= 1 && i < last {
				t.Errorf("Pick(%d, %v): %d, a lesser word %d", w, weights, i, last)
			}
			if most <= 1 && i > last && last > 0 {
				rose++
			}
			last = i
		}
	}
	if rose < 500 {
		t.Errorf("a greater word picked a later one only %d times", rose)
	}
}

// P5.8: of 2^k weights of 2^-k a word picks the number of its highest k bits.
func TestJustShares(t *testing.T) {
	r := rand.New(rand.NewSource(6))
	for k := range 11 {
		weights := make([]float64, 1<<k)
		for i := range weights {
			weights[i] = math.Ldexp(1, -k)
		}
		words := slices.Clone(edgeNums)
		for i := range 1 << k {
			if k == 0 || k > 6 && i%37 != 0 {
				continue
			}
			from := uint64(i) << (64 - k)
			words = append(words, from-1, from, from+2047, from+2048, from+r.Uint64()>>k)
		}
		for range 100 {
			words = append(words, r.Uint64())
		}
		for _, w := range words {
			wantPick(t, int(w>>(64-k)), w, weights...)
		}
	}
}
