package scalar_test

import (
	"math"
	"math/big"
	"math/rand"
	"regexp"
	"strconv"
	"strings"
	"testing"

	"turnpike/api"
	"turnpike/scalar"
)

var (
	intForm  = regexp.MustCompile(`^(0|-?[1-9][0-9]*)$`)
	realForm = regexp.MustCompile(`^(-?)(0|[1-9][0-9]*)\.([0-9]+)(?:e(-?[0-9]{1,2}))?$`)
)

func tenTo(n int) *big.Int { return new(big.Int).Exp(big.NewInt(10), big.NewInt(int64(n)), nil) }

// exact: m times 10^k.
func exact(m *big.Int, k int) *big.Rat {
	if k < 0 {
		return new(big.Rat).SetFrac(m, tenTo(-k))
	}
	return new(big.Rat).SetInt(new(big.Int).Mul(m, tenTo(k)))
}

// modelRead: what a plain text says, by the chapter's words in numbers of any length.
func modelRead(s string) scalar.Value {
	switch s {
	case "", "~", "null":
		return null()
	case "true":
		return truth(true)
	case "false":
		return truth(false)
	case ".nan":
		return real(math.NaN())
	case ".inf":
		return real(math.Inf(1))
	case "-.inf":
		return real(math.Inf(-1))
	}
	if intForm.MatchString(s) {
		if n, _ := new(big.Int).SetString(s, 10); n.IsInt64() {
			return whole(n.Int64())
		}
	}
	if parts := realForm.FindStringSubmatch(s); parts != nil {
		m, _ := new(big.Int).SetString(parts[2]+parts[3], 10)
		power, _ := strconv.Atoi(parts[4])
		k := power - len(parts[3])
		if m.Cmp(tenTo(15)) < 0 && k >= -22 && k <= 22 {
			x, _ := exact(m, k).Float64()
			if parts[1] == "-" {
				x = math.Copysign(x, -1)
			}
			return real(x)
		}
	}
	return text(s)
}

// modelDecimal: M and k of a magnitude, tried from the greatest k on; M is 0, if there are none.
func modelDecimal(x float64) (*big.Int, int) {
	is := new(big.Rat).SetFloat64(x)
	for k := 22; k >= -22; k-- {
		share := new(big.Rat).Quo(is, exact(big.NewInt(1), k))
		low := new(big.Int).Quo(share.Num(), share.Denom())
		for step := int64(-1); step <= 2; step++ {
			m := new(big.Int).Add(low, big.NewInt(step))
			if m.Sign() < 1 || m.Cmp(tenTo(15)) >= 0 {
				continue
			}
			if near, _ := exact(m, k).Float64(); near == x {
				return m, k
			}
		}
	}
	return big.NewInt(0), 0
}

// modelPrint: a real's text, and whether it may be told.
func modelPrint(x float64) (string, bool) {
	switch {
	case math.IsNaN(x):
		return ".nan", true
	case math.IsInf(x, 1):
		return ".inf", true
	case math.Signbit(x):
		s, may := modelPrint(-x)
		if !may {
			return "", false
		}
		return "-" + s, true
	case x == 0:
		return "0.0", true
	}
	m, k := modelDecimal(x)
	switch digits := m.String(); {
	case m.Sign() == 0:
		return "", false
	case k < 0:
		for len(digits) < 1-k {
			digits = "0" + digits
		}
		return digits[:len(digits)+k] + "." + digits[len(digits)+k:], true
	case new(big.Int).Mul(m, tenTo(k+1)).Cmp(tenTo(15)) < 0:
		return digits + strings.Repeat("0", k) + ".0", true
	default:
		back := digits[1:]
		if back == "" {
			back = "0"
		}
		return digits[:1] + "." + back + "e" + strconv.Itoa(k+len(digits)-1), true
	}
}

// shortest: M and k by way of the library's shortest digits; M is 0, if there are none. With at most 15 digits there is one decimal at most of each length, so that the shortest has the greatest k.
func shortest(x float64) (uint64, int) {
	front, back, _ := strings.Cut(strconv.FormatFloat(x, 'e', -1, 64), "e")
	digits := strings.Replace(front, ".", "", 1)
	power, _ := strconv.Atoi(back)
	k := power - len(digits) + 1
	for ; k > 22 && len(digits) <= 15; k-- {
		digits += "0"
	}
	if len(digits) > 15 || k < -22 || k > 22 {
		return 0, 0
	}
	m, _ := strconv.ParseUint(digits, 10, 64)
	return m, k
}

// wantRound: a text is read as the model reads it, is of one kind, and what was read is printed, and read as the same again (P11.1, P11.2, P11.5, P11.7).
func wantRound(t *testing.T, s string) {
	t.Helper()
	got := scalar.Read(s, false)
	if want := modelRead(s); !equal(got, want) {
		t.Fatalf("Read(%.200q): %s, want %s", s, told(got), told(want))
	}
	for _, v := range []scalar.Value{got, scalar.Read(s, true)} {
		again, quoted, e := scalar.Print(v)
		back := scalar.Read(again, quoted)
		if e != api.OK || !equal(back, v) || !scalar.Same(back, v) {
			t.Fatalf("%.200q is read as %s, printed as %.200q, %v, %d, and read as %s", s, told(v), again, quoted, int(e), told(back))
		}
	}
	_, quoted, _ := scalar.Print(text(s))
	if quoted != (got.Kind != scalar.Text) {
		t.Fatalf("the Text %.200q is quoted: %v, and it is read as %s", s, quoted, told(got))
	}
	number := got.Kind == scalar.Int || got.Kind == scalar.Real
	if number && strings.Trim(s, "0123456789-.e") != "" && s != ".nan" && s != ".inf" && s != "-.inf" {
		t.Fatalf("%.200q is read as %s", s, told(got))
	}
}

// wantReal: Decimal and Print tell of a real what the library's shortest digits tell; what is printed is read as it (P11.2, P11.4, P11.5).
func wantReal(t *testing.T, x float64) {
	t.Helper()
	m, k := shortest(x)
	want := api.OK
	if m == 0 {
		want = api.ErrArg
	}
	if gotM, gotK, e := scalar.Decimal(x); gotM != m || gotK != k || e != want {
		t.Fatalf("Decimal(%v): %d, %d, %d, want %d, %d", x, gotM, gotK, int(e), m, k)
	}
	for _, v := range []scalar.Value{real(x), real(-x)} {
		s, quoted, e := scalar.Print(v)
		if e != want || quoted || e != api.OK && s != "" {
			t.Fatalf("Print(%v): %q, %v, %d", v.Real, s, quoted, int(e))
		}
		if e == api.OK && !equal(scalar.Read(s, false), v) {
			t.Fatalf("Print(%v): %q", v.Real, s)
		}
	}
}

// P11.1, P11.5, P11.7: all texts up to seven bytes that a number may have, and up to four of ones beside them.
func TestShortTexts(t *testing.T) {
	var try func(s, letters string, more int)
	try = func(s, letters string, more int) {
		wantRound(t, s)
		for i := 0; i < len(letters) && more > 0; i++ {
			try(s+letters[i:i+1], letters, more-1)
		}
	}
	try("", "019-.e", 7)
	try("", "02-.eE+~n \x00\xff", 4)
	for _, s := range []string{"null", "true", "false", ".nan", ".inf", "-.inf"} {
		for from := range len(s) + 1 {
			wantRound(t, s[:from])
			wantRound(t, s[from:])
			wantRound(t, s[:from]+s)
		}
	}
}

// anyNumber: a text of about an int's or a real's form, often at the edges of what it may be.
func anyNumber(r *rand.Rand) string {
	digits := func(most int) string {
		b := make([]byte, 1+r.Intn(most))
		for i := range b {
			b[i] = "0123456789"[r.Intn(10)*r.Intn(2)]
		}
		return string(b)
	}
	s := []string{"", "-"}[r.Intn(2)] + []string{"0", digits(3), digits(17), "9" + digits(18), "1" + digits(13)}[r.Intn(5)]
	if r.Intn(6) == 0 {
		return s
	}
	s += "." + []string{digits(2), digits(15), digits(26), strings.Repeat("0", r.Intn(30)) + digits(4)}[r.Intn(4)]
	if r.Intn(3) == 0 {
		return s
	}
	return s + "e" + []string{"", "-"}[r.Intn(2)] + []string{digits(1), strconv.Itoa(r.Intn(45)), digits(3)}[r.Intn(3)]
}

// P11.1, P11.5, P11.7: random texts of numbers, and those with one byte changed, added or gone.
func TestRandomTexts(t *testing.T) {
	r := rand.New(rand.NewSource(11))
	kinds := map[int]int{}
	for range 60000 {
		s := anyNumber(r)
		wantRound(t, s)
		kinds[scalar.Read(s, false).Kind]++
		at := r.Intn(len(s))
		c := string([]byte{byte(r.Intn(256))})
		wantRound(t, s[:at]+c+s[at+1:])
		wantRound(t, s[:at]+c+s[at:])
		wantRound(t, s[:at]+s[at+1:])
	}
	if kinds[scalar.Int] < 1000 || kinds[scalar.Real] < 1000 || kinds[scalar.Text] < 1000 {
		t.Errorf("kinds: %v", kinds)
	}
}

// P11.7: every byte in every place of a number, and behind it.
func TestEveryByteInANumber(t *testing.T) {
	for _, s := range []string{"0", "-12", "1.5", "-0.0e-12", "9223372036854775807", ".nan", "-.inf"} {
		for at := range len(s) + 1 {
			for c := range 256 {
				one := string([]byte{byte(c)})
				wantRound(t, s[:at]+one+s[at:])
				wantRound(t, s[:at]+one+s[min(at+1, len(s)):])
			}
		}
	}
}

// someM: numbers M of every length, random ones and those beside powers of ten and of two.
func someM(r *rand.Rand) []uint64 {
	var all []uint64
	add := func(m uint64) {
		for d := range uint64(7) {
			if x := m + d - 3; x >= 1 && x < 1e15 {
				all = append(all, x)
			}
		}
	}
	for m := range uint64(120) {
		all = append(all, m+1)
	}
	for m := uint64(1); m <= 1e15; m *= 10 {
		add(m)
		add(5 * m)
		for range 20 {
			all = append(all, 1+uint64(r.Int63n(int64(min(m, 1e14)*10-1))))
		}
	}
	for m := uint64(1); m < 1e15; m *= 2 {
		add(m)
	}
	return all
}

// P11.4, P11.6: Scaled is the nearest, as numbers of any length tell it; a real of a text has the M and k of the chapter's words.
func TestNearest(t *testing.T) {
	r := rand.New(rand.NewSource(12))
	for _, m := range someM(r) {
		for k := -22; k <= 22; k++ {
			x, e := scalar.Scaled(m, k)
			want, _ := exact(new(big.Int).SetUint64(m), k).Float64()
			if x != want || e != api.OK {
				t.Fatalf("Scaled(%d, %d): %v, %d, want %v", m, k, x, int(e), want)
			}
			if next, e := scalar.Scaled(m+1, k); e == api.OK && !(next > x) {
				t.Fatalf("Scaled of %d and of %d with %d: %v, %v", m, m+1, k, x, next)
			}
			wantReal(t, x)
		}
	}
}

// P11.6: where m times 10^k lies in the middle between two, the one whose last bit is 0 is taken: now the upper, now the lower.
func TestNearestOfTwoAsNear(t *testing.T) {
	r := rand.New(rand.NewSource(13))
	up, down := 0, 0
	for k := 2; k <= 22; k++ {
		five := new(big.Int).Exp(big.NewInt(5), big.NewInt(int64(k)), nil)
		low := new(big.Int).Quo(new(big.Int).Lsh(big.NewInt(1), 53), five).Uint64() + 1
		for range 500 {
			m := (low + uint64(r.Int63n(int64(low)))) | 1
			odd := new(big.Int).Mul(new(big.Int).SetUint64(m), five)
			if m >= 1e15 || odd.BitLen() != 54 {
				continue
			}
			x, _ := scalar.Scaled(m, k)
			if math.Float64bits(x)&1 != 0 {
				t.Fatalf("Scaled(%d, %d): %x", m, k, x)
			}
			switch new(big.Rat).SetFloat64(x).Cmp(exact(new(big.Int).SetUint64(m), k)) {
			case 1:
				up++
			case -1:
				down++
			default:
				t.Fatalf("%d with %d is a float64", m, k)
			}
		}
	}
	if up < 1000 || down < 1000 {
		t.Errorf("%d were rounded up, %d down", up, down)
	}
}

// P11.2, P11.4, P11.5: the texts of reals of few digits, and of those beside them, as the chapter's words say.
func TestRealsByTheWords(t *testing.T) {
	r := rand.New(rand.NewSource(14))
	told, untold := 0, 0
	for range 4000 {
		m := 1 + uint64(r.Int63n(int64(math.Pow10(1+r.Intn(15)))-1))
		x, _ := scalar.Scaled(m, r.Intn(45)-22)
		switch r.Intn(4) {
		case 0:
			x = math.Nextafter(x, math.Inf(2*r.Intn(2)-1))
		case 1:
			x = -x
		}
		s, quoted, e := scalar.Print(real(x))
		want, may := modelPrint(x)
		if s != want || quoted || (e == api.OK) != may || !may && e != api.ErrArg {
			t.Fatalf("Print(%v): %q, %v, %d, want %q", x, s, quoted, int(e), want)
		}
		if may {
			told++
		} else {
			untold++
		}
	}
	if told < 500 || untold < 500 {
		t.Errorf("%d were told, %d not", told, untold)
	}
}

// P11.2, P11.4, P11.5: reals of any bits, and of any bits within what may be told.
func TestRandomReals(t *testing.T) {
	r := rand.New(rand.NewSource(15))
	for range 50000 {
		x := math.Abs(math.Float64frombits(r.Uint64()))
		if x > 0 && x <= math.MaxFloat64 {
			wantReal(t, x)
		}
		wantReal(t, math.Ldexp(1+r.Float64(), r.Intn(240)-110))
		short := math.Ldexp(float64(1+r.Intn(1<<20)), r.Intn(140)-40)
		wantReal(t, short)
		wantReal(t, math.Nextafter(short, 0))
	}
	for power := -1074; power <= 1023; power++ {
		wantReal(t, math.Ldexp(1, power))
	}
	for power := -320; power <= 308; power++ {
		x, _ := strconv.ParseFloat("1e"+strconv.Itoa(power), 64)
		wantReal(t, x)
		wantReal(t, 7*(x/8))
	}
}

// P11.5: every value that has a text, ints and texts among them, whatever its other fields have.
func TestRandomValues(t *testing.T) {
	r := rand.New(rand.NewSource(16))
	for range 20000 {
		v := scalar.Value{Kind: r.Intn(7), Bool: r.Intn(2) == 0, Int: int64(r.Uint64()) >> r.Intn(64), Text: anyNumber(r)}
		v.Real, _ = scalar.Scaled(uint64(r.Intn(1e6)), r.Intn(45)-22)
		s, quoted, e := scalar.Print(v)
		if none := v.Kind < 1 || v.Kind > 5; none != (e == api.ErrArg) || none && (s != "" || quoted) {
			t.Fatalf("Print(%s): %q, %v, %d", told(v), s, quoted, int(e))
		}
		if e == api.OK && !scalar.Same(scalar.Read(s, quoted), v) {
			t.Fatalf("%s is printed as %q, %v", told(v), s, quoted)
		}
	}
}
