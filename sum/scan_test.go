package sum_test

import (
	"bytes"
	"math/rand"
	"slices"
	"testing"

	"turnpike/api"
	"turnpike/sum"
)

// somePayloads: short ones, ones without bytes at all places, and one that is itself a row of frames.
func somePayloads(t *testing.T) [][]byte {
	t.Helper()
	inner := slices.Concat(frame(t, []byte("in")), frame(t, nil))
	return [][]byte{{}, []byte("a"), {}, {}, []byte("bc"), inner, make([]byte, 8), []byte("the last but one"), {}}
}

// tails: what begins with no frame.
func tails(t *testing.T) [][]byte {
	t.Helper()
	whole := frame(t, []byte("tail"))
	spoilt := slices.Clone(whole)
	spoilt[len(spoilt)-1] ^= 1
	return [][]byte{
		nil, {0}, {0, 0}, make([]byte, 8), make([]byte, 100), bytes.Repeat([]byte{0xff}, 9),
		whole[:len(whole)-1], whole[:4], slices.Concat([]byte{0}, whole), slices.Concat(spoilt, whole, whole),
		byTheForm(make([]byte, sum.MaxRecord+1)), slices.Concat(byTheForm(make([]byte, sum.MaxRecord+1)), whole),
	}
}

// P1.4.
func TestScanOfExamples(t *testing.T) {
	b, _ := row(t, [][]byte{[]byte("a"), {}, []byte("bc")})
	b = append(b, 0, 0)
	wantHead(t, "the chapter's", b, [][]byte{[]byte("a"), {}, []byte("bc")}, 27)
	wantHead(t, "nil", nil, nil, 0)
	wantHead(t, "none", []byte{}, nil, 0)
	wantHead(t, "noughts", make([]byte, 50), nil, 0)
	wantHead(t, "a byte ahead", slices.Concat([]byte{0}, b), nil, 0)
	if l, n := sum.Scan(nil); len(l) != 0 || n != 0 {
		t.Errorf("Scan of nil: %q, %d", l, n)
	}
}

// P1.4: Scan tells what Next tells, one behind the other.
func TestScanIsNextByNext(t *testing.T) {
	r := rand.New(rand.NewSource(11))
	for range 300 {
		b := noise(r, r.Intn(4))
		for range r.Intn(6) {
			b = append(frame(t, noise(r, r.Intn(5))), b...)
		}
		if len(b) > 0 && r.Intn(2) == 0 {
			b[r.Intn(len(b))] ^= 1 << r.Intn(8)
		}
		var want [][]byte
		end := 0
		for {
			p, n, e := sum.Next(b[end:])
			if e != api.OK {
				break
			}
			want, end = append(want, p), end+n
		}
		wantHead(t, "some bytes", b, want, end)
	}
}

// P1.4: the places of Each, and that it may be left at each of them.
func TestEachLeftEarly(t *testing.T) {
	payloads := somePayloads(t)
	b, ends := row(t, payloads)
	b = append(b, 1, 2, 3)
	each := sum.Each(b)
	for most := range len(payloads) + 1 {
		var places []int
		var seen [][]byte
		calls := 0
		each(func(at int, p []byte) bool {
			calls++
			places, seen = append(places, at), append(seen, p)
			return calls <= most
		})
		want := min(most+1, len(payloads)) // one that says no is the last that is called
		if calls != want || !slices.Equal(places, ends[:want]) || !same(seen, payloads[:want]) {
			t.Errorf("left at %d: %d calls, %v, %q", most, calls, places, seen)
		}
	}
	for at, p := range each {
		if at != ends[0] || len(p) != 0 {
			t.Errorf("the first: %d, %q", at, p)
		}
		break
	}
}

// P1.4: gone over again it tells the same, also from within itself, and whatever was done to its payloads.
func TestEachAgain(t *testing.T) {
	payloads := somePayloads(t)
	b, ends := row(t, payloads)
	each := sum.Each(b)
	for range 3 {
		i := 0
		for at, p := range each {
			if at != ends[i] || !bytes.Equal(p, payloads[i]) {
				t.Fatalf("record %d: %d, %q", i, at, p)
			}
			j := 0
			for again, q := range each {
				if again != ends[j] || !bytes.Equal(q, payloads[j]) {
					t.Fatalf("within record %d, record %d: %d, %q", i, j, again, q)
				}
				clear(q)
				j++
			}
			if j != len(payloads) || !bytes.Equal(p, payloads[i]) {
				t.Fatalf("within record %d: %d records, and it is %q", i, j, p)
			}
			clear(p)
			i++
		}
		if i != len(payloads) {
			t.Fatalf("%d records", i)
		}
	}
}

// P1.4: a sequence of nothing calls nobody.
func TestEachOfNothing(t *testing.T) {
	for _, b := range [][]byte{nil, {}, make([]byte, 8), []byte("no frame begins here")} {
		for at, p := range sum.Each(b) {
			t.Errorf("Each of %x: %d, %q", b, at, p)
		}
	}
}

// P1.5.
func TestThereAndBack(t *testing.T) {
	r := rand.New(rand.NewSource(12))
	rows := [][][]byte{nil, {{}}, somePayloads(t), {noise(r, sum.MaxRecord), {}, noise(r, sum.MaxRecord), noise(r, 1)}}
	for range 40 {
		var payloads [][]byte
		for range r.Intn(9) {
			payloads = append(payloads, noise(r, r.Intn(70)))
		}
		rows = append(rows, payloads)
	}
	for _, payloads := range rows {
		b, _ := row(t, payloads)
		for _, tail := range tails(t) {
			wantHead(t, "there and back", slices.Concat(b, tail), payloads, len(b))
		}
	}
}

// P1.6: cut anywhere.
func TestCutAnywhere(t *testing.T) {
	payloads := somePayloads(t)
	b, ends := row(t, payloads)
	for n := range len(b) + 1 {
		whole, end := 0, 0
		for whole < len(ends) && ends[whole] <= n {
			end = ends[whole]
			whole++
		}
		wantHead(t, "cut", b[:n], payloads[:whole], end)
	}
}

// turn turns the bits of b from bit at on of which pattern has the value: bit 8 i + j is the one with the value 2^j of byte i.
func turn(b []byte, at int, pattern uint32) {
	for k := range 32 {
		if pattern>>k&1 == 1 {
			b[(at+k)/8] ^= 1 << ((at + k) % 8)
		}
	}
}

// fits: whether the pattern laid at a bit stays within so many bits.
func fits(at int, pattern uint32, bits int) bool {
	top := 0
	for k := range 32 {
		if pattern>>k&1 == 1 {
			top = k
		}
	}
	return at+top < bits
}

// patterns: one bit, all two within 32, all 32, and some more.
func patterns(r *rand.Rand) []uint32 {
	l := []uint32{1, 3, 7, 0xff, 0xffff, 0xffffffff, 0x80000001, 0xaaaaaaab, 0x82f63b78, 0x05ec76f1}
	for k := 1; k < 32; k++ {
		l = append(l, 1|1<<k)
	}
	for range 20 {
		l = append(l, r.Uint32()|1)
	}
	return l
}

// P1.6: bits turned in one record's payload, or in its sum.
func TestTurnedBits(t *testing.T) {
	payloads := somePayloads(t)
	b, ends := row(t, payloads)
	l := patterns(rand.New(rand.NewSource(13)))
	for i, p := range payloads {
		begin := ends[i] - 8 - len(p)
		for _, part := range [][2]int{{begin + 4, begin + 8}, {begin + 8, ends[i]}} {
			bits := 8 * (part[1] - part[0])
			for at := range bits {
				for _, pattern := range l {
					if !fits(at, pattern, bits) {
						continue
					}
					turn(b[part[0]:part[1]], at, pattern)
					wantHead(t, "turned bits", b, payloads[:i], begin)
					turn(b[part[0]:part[1]], at, pattern)
				}
			}
		}
	}
	wantHead(t, "turned back", b, payloads, len(b))
}

// P1.6: the same of the longest record there is.
func TestTurnedBitsOfTheLongest(t *testing.T) {
	r := rand.New(rand.NewSource(14))
	payloads := [][]byte{[]byte("ahead"), noise(r, sum.MaxRecord), []byte("behind")}
	b, ends := row(t, payloads)
	long := b[ends[0]+8 : ends[1]]
	bits := 8 * len(long)
	for _, at := range []int{0, 1, 7, 8, bits / 2, bits - 33, bits - 32, r.Intn(bits - 32), r.Intn(bits - 32)} {
		for _, pattern := range []uint32{1, 0xffffffff, 0x80000001, r.Uint32() | 1} {
			turn(long, at, pattern)
			wantHead(t, "turned bits", b, payloads[:1], ends[0])
			turn(long, at, pattern)
		}
	}
	turn(long, bits-1, 1)
	wantHead(t, "the last bit turned", b, payloads[:1], ends[0])
}
