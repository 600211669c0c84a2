package draw_test

import (
	"math"
	"math/big"
	"math/rand"
	"slices"
	"testing"

	"turnpike/api"
	"turnpike/draw"
)

// Reals at their edges.
var (
	nan      = math.NaN()
	inf      = math.Inf(1)
	under    = math.Inf(-1)
	minus0   = math.Copysign(0, -1)
	tiny     = math.SmallestNonzeroFloat64
	huge     = math.MaxFloat64
	edges    = []float64{0, minus0, 1, -1, 0.5, 0.25, 0.1, 100, tiny, -tiny, huge, -huge, 0x1p1023, 0x1p-1022, 1 - 0x1p-53, 1 + 0x1p-52, inf, under, nan}
	topWord  = uint64(math.MaxUint64)
	edgeNums = []uint64{0, 1, 2, 2047, 2048, 2049, 4095, 4096, 1<<53 - 1, 1 << 53, 1<<53 + 1, 1<<62 - 1, 1 << 62, 1<<63 - 1, 1 << 63, 1<<63 + 2047, 1<<63 + 2048, topWord - 2048, topWord - 2047, topWord - 1, topWord}
)

// same: the same reals, -0 told from 0.
func same(a, b []float64) bool {
	return slices.EqualFunc(a, b, func(x, y float64) bool { return math.Float64bits(x) == math.Float64bits(y) })
}

func wantBelow(t *testing.T, w uint64, n, want int, wantE api.Errno) {
	t.Helper()
	if k, e := draw.Below(w, n); k != want || e != wantE {
		t.Errorf("Below(%d, %d): %d, error %d, want %d, error %d", w, n, k, int(e), want, int(wantE))
	}
}

func wantUnit(t *testing.T, w uint64, want float64) {
	t.Helper()
	if x := draw.Unit(w); math.Float64bits(x) != math.Float64bits(want) {
		t.Errorf("Unit(%d): %v, want %v", w, x, want)
	}
}

// P5.1: the chapter's examples.
func TestBelowExamples(t *testing.T) {
	wantBelow(t, 10, 3, 1, api.OK)
	wantBelow(t, topWord, 10, 5, api.OK)
	wantBelow(t, 5, 0, 0, api.ErrArg)
}

// P5.1: n below 1.
func TestBelowRefuses(t *testing.T) {
	for _, w := range edgeNums {
		for _, n := range []int{0, -1, -2, -7, math.MinInt + 1, math.MinInt, math.MinInt32} {
			wantBelow(t, w, n, 0, api.ErrArg)
		}
	}
}

// P5.1: a remainder, held against numbers without an end.
func TestBelow(t *testing.T) {
	r := rand.New(rand.NewSource(1))
	numbers := slices.Clone(edgeNums)
	for range 300 {
		numbers = append(numbers, r.Uint64()>>r.Intn(64))
	}
	for _, w := range numbers {
		for _, n := range []int{1, 2, 3, 7, 10, 64, 1000, math.MaxInt32, math.MaxInt - 1, math.MaxInt, 1 + r.Intn(1<<40)} {
			rest := new(big.Int).Mod(new(big.Int).SetUint64(w), big.NewInt(int64(n)))
			wantBelow(t, w, n, int(rest.Int64()), api.OK)
		}
	}
}

// P5.2: the chapter's examples.
func TestUnitExamples(t *testing.T) {
	wantUnit(t, 0, 0)
	wantUnit(t, 1<<63, 0.5)
	wantUnit(t, topWord, 1-0x1p-53)
	wantUnit(t, 2047, 0)
}

// P5.2: exactly the number of the highest 53 bits, divided by 2^53; the lowest 11 bits do not count.
func TestUnit(t *testing.T) {
	r := rand.New(rand.NewSource(2))
	numbers := slices.Clone(edgeNums)
	for bit := range 64 {
		numbers = append(numbers, 1<<bit, 1<<bit-1, ^uint64(0)<<bit, ^(uint64(1) << bit))
	}
	for range 2000 {
		numbers = append(numbers, r.Uint64(), r.Uint64()>>r.Intn(64))
	}
	whole := new(big.Int).Lsh(big.NewInt(1), 53)
	for _, w := range numbers {
		high := new(big.Int).Rsh(new(big.Int).SetUint64(w), 11)
		want, exact := new(big.Rat).SetFrac(high, whole).Float64()
		if !exact || want < 0 || want > 1-0x1p-53 {
			t.Fatalf("%d: %v, %v", w, want, exact)
		}
		wantUnit(t, w, want)
		wantUnit(t, w|2047, want)
		wantUnit(t, w&^2047, want)
	}
	wantUnit(t, 2048, 0x1p-53)
	wantUnit(t, topWord-2048, 1-0x1p-52)
}
